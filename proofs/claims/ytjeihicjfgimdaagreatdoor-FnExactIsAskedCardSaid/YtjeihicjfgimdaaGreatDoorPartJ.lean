/-
  CONTRACTS AND PLAIN FACTS, several texts in one; each says in its own words what it proves.
-/
import Derived.Test.YtjeihicjfgimdaaGreatDoorPartI
import Derived.Laws.Concat
import Derived.LoopTactic
set_option linter.unusedSimpArgs false
set_option linter.unusedVariables false

/-
  PLAIN FACTS on the size of a list of texts.
-/
namespace Go.Proofs.YtjeihicjfgimdaaGreatDoor.Strs
open Go Go.RowKit
set_option linter.unusedVariables false
set_option maxRecDepth 1000000

/-! the size -/
def total (xs : List (List UInt8)) : Nat := (xs.map (·.length)).sum + xs.length
theorem total_nil : total [] = 0 := rfl
def pre (xs : List (List UInt8)) (k : Nat) : Nat := ((xs.take k).map (·.length)).sum
theorem pre_zero (xs : List (List UInt8)) : pre xs 0 = 0 := by unfold pre; simp
theorem pre_more {xs : List (List UInt8)} {k : Nat} (h : k < xs.length) : pre xs (k + 1) = pre xs k + (xs.getD k []).length := by
  unfold pre; rw [List.take_succ_eq_append_getElem h, List.map_append, List.sum_append]; simp [List.getD, h]
theorem pre_all {xs : List (List UInt8)} {k : Nat} (h : k = xs.length) : total xs = pre xs k + xs.length := by unfold pre total; subst h; simp
end Go.Proofs.YtjeihicjfgimdaaGreatDoor.Strs

/-
  PLAIN FACTS on joined texts.
-/
namespace Go.Proofs.YtjeihicjfgimdaaGreatDoor.Tx
open Go Go.RowKit Strs
set_option linter.unusedVariables false
set_option maxRecDepth 1000000

theorem addtwo (a b : List UInt8) (h : a.length + b.length ≤ 1000000000) (W : World) :
    (Op.stringOp .add ⟨a.toArray⟩ ⟨b.toArray⟩).run Tryz.prog W = .ok (.string ⟨(a ++ b).toArray⟩) W := by
  rw [run_string_add_sum W _ _ (by simp [ByteArray.size]; omega)]
  congr 2
theorem join_snoc {xs : List (List UInt8)} (x : List UInt8) (h : xs ≠ []) : join (xs ++ [x]) = join xs ++ [44, 32] ++ x := by
  induction xs with
  | nil => exact absurd rfl h
  | cons a r ih =>
    by_cases hr : r = []
    · subst hr; rw [List.singleton_append, join_cons _ _ (by simp), join_one, join_one]; simp
    · rw [List.cons_append, join_cons _ _ (by simp), join_cons _ _ hr, ih hr]; simp
theorem join_more {xs : List (List UInt8)} {k : Nat} (h : k < xs.length) (h0 : 0 < k) : join (xs.take (k + 1)) = join (xs.take k) ++ [44, 32] ++ xs.getD k [] := by
  rw [List.take_succ_eq_append_getElem h, join_snoc _ (by intro e; have h' := congrArg List.length e; rw [List.length_take, List.length_nil] at h'; omega)]
  simp [List.getD, h]
theorem join_first {xs : List (List UInt8)} (h : 0 < xs.length) : join (xs.take 1) = xs.getD 0 [] := by
  cases xs with
  | nil => simp at h
  | cons a r => simp [join_one]
theorem join_nil : join [] = [] := rfl
theorem pre_le (xs : List (List UInt8)) (k : Nat) : pre xs k ≤ (xs.map (·.length)).sum := by
  unfold pre
  conv => rhs; rw [← List.take_append_drop k xs]
  rw [List.map_append, List.sum_append]; omega
theorem join_len (xs : List (List UInt8)) (k : Nat) (hk : k ≤ xs.length) : (join (xs.take k)).length ≤ pre xs k + 2 * k := by
  induction k with
  | zero => simp [join_nil]
  | succ k ih =>
    have ih := ih (by omega)
    have hp := pre_more (xs := xs) (k := k) (by omega)
    by_cases h0 : 0 < k
    · rw [join_more (by omega) h0]; simp only [List.length_append, List.length_cons, List.length_nil]; omega
    · have : k = 0 := by omega
      subst this
      rw [join_first (by omega)]; rw [hp]; omega

def JoinEnd (xs : List (List UInt8)) (w : World) (e : Ending) (w' : World) : Prop := e = .returned (.string ⟨(join xs).toArray⟩) ∧ Below w.heap.size w w'
theorem ret_join {a b : List UInt8} (h : a = b) : Ending.returned (.string ⟨a.toArray⟩) = .returned (.string ⟨b.toArray⟩) := by rw [h]

end Go.Proofs.YtjeihicjfgimdaaGreatDoor.Tx

/-
  CONTRACT of the model's JoinList: at every slice of texts that are not too long together it returns the texts with a comma and a space between them; nothing that was there before is changed.
-/
namespace Go.Proofs.YtjeihicjfgimdaaGreatDoor.Tx
open Go Go.RowKit Strs
set_option linter.unusedVariables false
set_option maxRecDepth 1000000

theorem spec_join_nil (a : Option Addr) (cap : Nat) (w : World) :
    Calls Tryz.prog 114 #[.slice a 0 cap] w (JoinEnd [] w) := by
  go_enter Tryz.func114, Tryz.ntmps114
  go_wp2
  go_loop [3, 4] (fun s i => i = .int .i64 0 ∧ s = .string ⟨#[]⟩) (fun _ i => 0)
  case atStart => exact ⟨rfl, rfl⟩
  case round =>
    obtain ⟨rfl, rfl⟩ := hrel
    go_wp2
    go_ret
    exact ⟨rfl, Below.refl _ _⟩

set_option maxHeartbeats 1000000 in
theorem spec_join_some (b off cap : Nat) (xs : List (List UInt8)) (w : World) (hc : At w b off xs) (h0 : 0 < xs.length) (ht : total xs ≤ 67108864) :
    Calls Tryz.prog 114 #[.slice (some ⟨b, off, none⟩) xs.length cap] w (JoinEnd xs w) := by
  have hl : xs.length ≤ 67108864 := by unfold total at ht; omega
  have HC := Lib.hid hc
  have HT := Lib.hid ht
  clear hc ht
  go_enter Tryz.func114, Tryz.ntmps114
  go_wp2
  go_loop [3, 4] (fun s i => ∃ k : Nat, k ≤ xs.length ∧ i = .int .i64 (k : Int) ∧ s = .string ⟨(join (xs.take k)).toArray⟩) (fun _ i => xs.length - (intOf i).toNat)
  case atStart => exact ⟨0, Nat.zero_le _, rfl, rfl⟩
  case round =>
    obtain ⟨k, hk, rfl, rfl⟩ := hrel
    by_cases hlt : k < xs.length
    · have hcell := HC.out k hlt
      have HJ := Lib.hid (join_len xs k hk)
      have HP := Lib.hid (pre_more hlt)
      have HPL := Lib.hid (pre_le xs (k + 1))
      unfold sv at hcell
      by_cases hz : 0 < k
      · have hzi : 0 < (k : Int) := by omega
        have HM := Lib.hid (join_more hlt hz)
        generalize xs.getD k [] = x at *
        generalize join (xs.take k) = y at *
        have hadd1 := addtwo y [44, 32] (by have := HJ.out; have := HP.out; have := HPL.out; have := HT.out; unfold total at this; simp only [List.length_append, List.length_cons, List.length_nil]; omega)
        have hadd2 := addtwo (y ++ [44, 32]) x (by have := HJ.out; have := HP.out; have := HPL.out; have := HT.out; unfold total at this; simp only [List.length_append, List.length_cons, List.length_nil]; omega)
        go_wp2
        go_round
        case rel => exact ⟨k + 1, by omega, by go_num, by rw [HM.out]; simp⟩
        case measure => simp [intOf]; omega
      · have hzi : ¬ 0 < (k : Int) := by omega
        have h00 : join (xs.take k) = [] := by rw [show k = 0 by omega]; rfl
        have HM : Hid (join (xs.take (k + 1)) = xs.getD k []) := Lib.hid (by rw [show k = 0 by omega]; exact join_first h0)
        rw [h00]
        clear h00 HJ
        generalize xs.getD k [] = x at *
        have hadd2 : ∀ W, (Op.stringOp .add ⟨#[]⟩ ⟨x.toArray⟩).run Tryz.prog W = .ok (.string ⟨x.toArray⟩) W := addtwo [] x (by have := HP.out; have := HPL.out; have := HT.out; unfold total at this; simp only [List.length_append, List.length_cons, List.length_nil]; omega)
        go_wp2
        go_round
        case rel => exact ⟨k + 1, by omega, by go_num, by rw [HM.out]⟩
        case measure => simp [intOf]; omega
    · have HE : Hid (join (xs.take k) = join xs) := Lib.hid (by rw [List.take_of_length_le (by omega)])
      go_wp2
      go_ret
      exact ⟨ret_join HE.out, Below.refl _ _⟩

theorem spec_join (v : Value) (B : Nat) (xs : List (List UInt8)) (w : World) (h : Holds w B v xs) (ht : total xs ≤ 67108864) :
    Calls Tryz.prog 114 #[v] w (JoinEnd xs w) := by
  rcases h with ⟨rfl, a, cap, rfl⟩ | ⟨h0, b, off, cap, rfl, _, _, hc⟩
  · exact spec_join_nil a cap w
  · exact spec_join_some b off cap xs w hc h0 ht

end Go.Proofs.YtjeihicjfgimdaaGreatDoor.Tx
