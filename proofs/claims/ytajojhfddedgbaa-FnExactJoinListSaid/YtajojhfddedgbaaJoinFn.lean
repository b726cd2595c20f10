/-
  CONTRACTS of both sides' JoinList: at every slice of texts that are not too long together each returns the texts with a comma and a space between them; nothing that was there before is changed.
-/
import Derived.Test.YtajojhfddedgbaaTxCut
import Derived.Test.YtajojhfddedgbaaStrArg
import Derived.Test.YtajojhfddedgbaaShelf
import Derived.LoopTactic
import Derived.Laws.Concat
namespace Go.Proofs.Ytajojhfddedgbaa.Tx
open Go Go.RowKit Strs
set_option linter.unusedVariables false

theorem addtwo (a b : List UInt8) (h : a.length + b.length ≤ 1000000000) (W : World) :
    (Op.stringOp .add ⟨a.toArray⟩ ⟨b.toArray⟩).run Try.prog W = .ok (.string ⟨(a ++ b).toArray⟩) W := by
  rw [run_string_add_sum W _ _ (by simp [ByteArray.size]; omega)]
  congr 2
theorem join_snoc {xs : List (List UInt8)} (x : List UInt8) (h : xs ≠ []) : join (xs ++ [x]) = join xs ++ [44, 32] ++ x := by
  induction xs with
  | nil => exact absurd rfl h
  | cons a r ih =>
    by_cases hr : r = []
    · subst hr; rw [List.singleton_append, join_cons _ _ (by simp), join_one, join_one]; simp
    · rw [List.cons_append, join_cons _ _ (by simp), join_cons _ _ hr, ih hr]; simp
theorem join_more {xs : List (List UInt8)} {k : Nat} (h : k < xs.length) (h0 : 0 < k) : join (xs.take (k + 1)) = join (xs.take k) ++ [44, 32] ++ xs.getD k [] := by
  rw [List.take_succ_eq_append_getElem h, join_snoc _ (by intro e; have h' := congrArg List.length e; rw [List.length_take, List.length_nil] at h'; omega)]
  simp [List.getD, h]
theorem join_first {xs : List (List UInt8)} (h : 0 < xs.length) : join (xs.take 1) = xs.getD 0 [] := by
  cases xs with
  | nil => simp at h
  | cons a r => simp [join_one]
theorem join_nil : join [] = [] := rfl
theorem pre_le (xs : List (List UInt8)) (k : Nat) : pre xs k ≤ (xs.map (·.length)).sum := by
  unfold pre
  conv => rhs; rw [← List.take_append_drop k xs]
  rw [List.map_append, List.sum_append]; omega
theorem join_len (xs : List (List UInt8)) (k : Nat) (hk : k ≤ xs.length) : (join (xs.take k)).length ≤ pre xs k + 2 * k := by
  induction k with
  | zero => simp [join_nil]
  | succ k ih =>
    have ih := ih (by omega)
    have hp := pre_more (xs := xs) (k := k) (by omega)
    by_cases h0 : 0 < k
    · rw [join_more (by omega) h0]; simp only [List.length_append, List.length_cons, List.length_nil]; omega
    · have : k = 0 := by omega
      subst this
      rw [join_first (by omega)]; rw [hp]; omega

def JoinEnd (xs : List (List UInt8)) (w : World) (e : Ending) (w' : World) : Prop := e = .returned (.string ⟨(join xs).toArray⟩) ∧ Below w.heap.size w w'
theorem ret_join {a b : List UInt8} (h : a = b) : Ending.returned (.string ⟨a.toArray⟩) = .returned (.string ⟨b.toArray⟩) := by rw [h]

theorem spec_join_nil (a : Option Addr) (cap : Nat) (w : World) :
    Calls Try.prog 17 #[.slice a 0 cap] w (JoinEnd [] w) := by
  go_enter Try.func17, Try.ntmps17
  go_wp2
  go_loop [3, 4] (fun s i => i = .int .i64 0 ∧ s = .string ⟨#[]⟩) (fun _ i => 0)
  case atStart => exact ⟨rfl, rfl⟩
  case round =>
    obtain ⟨rfl, rfl⟩ := hrel
    go_wp2
    go_ret
    exact ⟨rfl, Below.refl _ _⟩

set_option maxHeartbeats 1000000 in
theorem spec_join_some (b off cap : Nat) (xs : List (List UInt8)) (w : World) (hc : At w b off xs) (h0 : 0 < xs.length) (ht : total xs ≤ 4194304) :
    Calls Try.prog 17 #[.slice (some ⟨b, off, none⟩) xs.length cap] w (JoinEnd xs w) := by
  have hl : xs.length ≤ 4194304 := by unfold total at ht; omega
  have HC := Lib.hid hc
  have HT := Lib.hid ht
  clear hc ht
  go_enter Try.func17, Try.ntmps17
  go_wp2
  go_loop [3, 4] (fun s i => ∃ k : Nat, k ≤ xs.length ∧ i = .int .i64 (k : Int) ∧ s = .string ⟨(join (xs.take k)).toArray⟩) (fun _ i => xs.length - (intOf i).toNat)
  case atStart => exact ⟨0, Nat.zero_le _, rfl, rfl⟩
  case round =>
    obtain ⟨k, hk, rfl, rfl⟩ := hrel
    by_cases hlt : k < xs.length
    · have hcell := HC.out k hlt
      have HJ := Lib.hid (join_len xs k hk)
      have HP := Lib.hid (pre_more hlt)
      have HPL := Lib.hid (pre_le xs (k + 1))
      unfold sv at hcell
      by_cases hz : 0 < k
      · have hzi : 0 < (k : Int) := by omega
        have HM := Lib.hid (join_more hlt hz)
        generalize xs.getD k [] = x at *
        generalize join (xs.take k) = y at *
        have hadd1 := addtwo y [44, 32] (by have := HJ.out; have := HP.out; have := HPL.out; have := HT.out; unfold total at this; simp only [List.length_append, List.length_cons, List.length_nil]; omega)
        have hadd2 := addtwo (y ++ [44, 32]) x (by have := HJ.out; have := HP.out; have := HPL.out; have := HT.out; unfold total at this; simp only [List.length_append, List.length_cons, List.length_nil]; omega)
        go_wp2
        go_round
        case rel => exact ⟨k + 1, by omega, by go_num, by rw [HM.out]; simp⟩
        case measure => simp [intOf]; omega
      · have hzi : ¬ 0 < (k : Int) := by omega
        have h00 : join (xs.take k) = [] := by rw [show k = 0 by omega]; rfl
        have HM : Hid (join (xs.take (k + 1)) = xs.getD k []) := Lib.hid (by rw [show k = 0 by omega]; exact join_first h0)
        rw [h00]
        clear h00 HJ
        generalize xs.getD k [] = x at *
        have hadd2 : ∀ W, (Op.stringOp .add ⟨#[]⟩ ⟨x.toArray⟩).run Try.prog W = .ok (.string ⟨x.toArray⟩) W := addtwo [] x (by have := HP.out; have := HPL.out; have := HT.out; unfold total at this; simp only [List.length_append, List.length_cons, List.length_nil]; omega)
        go_wp2
        go_round
        case rel => exact ⟨k + 1, by omega, by go_num, by rw [HM.out]⟩
        case measure => simp [intOf]; omega
    · have HE : Hid (join (xs.take k) = join xs) := Lib.hid (by rw [List.take_of_length_le (by omega)])
      go_wp2
      go_ret
      exact ⟨ret_join HE.out, Below.refl _ _⟩

theorem spec_join (v : Value) (B : Nat) (xs : List (List UInt8)) (w : World) (h : Holds w B v xs) (ht : total xs ≤ 4194304) :
    Calls Try.prog 17 #[v] w (JoinEnd xs w) := by
  rcases h with ⟨rfl, a, cap, rfl⟩ | ⟨h0, b, off, cap, rfl, _, _, hc⟩
  · exact spec_join_nil a cap w
  · exact spec_join_some b off cap xs w hc h0 ht

theorem lib_join (v : Value) (B : Nat) (xs : List (List UInt8)) (w : World) (h : Holds w B v xs) (ht : total xs ≤ 4194304) :
    Calls Try.prog 25 #[v, .string ⟨#[44, 32]⟩] w (JoinEnd xs w) := by
  have hl : xs.length ≤ 4194304 := by unfold total at ht; omega
  rcases h with ⟨rfl, a, cap, rfl⟩ | ⟨h0, b, off, cap, rfl, _, hcap, hc⟩
  · refine (Try.strings_Join_none a cap ⟨#[44, 32]⟩ w).mono ?_
    rintro e w' ⟨rfl, rfl⟩
    exact ⟨rfl, Below.refl _ _⟩
  · have hm : (xs.map (fun x => (⟨x.toArray⟩ : ByteArray))).map (·.data.toList) = xs := by rw [List.map_map]; exact List.map_id'' (fun _ => rfl) xs
    have hlen : (Lib.join xs [44, 32]).length ≤ 140737488355328 := by
      have h1 := join_len xs xs.length (Nat.le_refl _)
      rw [List.take_length] at h1
      have h2 := pre_le xs xs.length
      have : (join xs).length = (Lib.join xs [44, 32]).length := rfl
      unfold total at ht; omega
    have c := Try.strings_Join b off cap (xs.map (fun x => (⟨x.toArray⟩ : ByteArray))) ⟨#[44, 32]⟩ w (fun j x hj => by
      rw [List.getElem?_map] at hj
      have hjl : j < xs.length := by
        rcases Nat.lt_or_ge j xs.length with h' | h'
        · exact h'
        · rw [List.getElem?_eq_none h'] at hj; cases hj
      rw [hc j hjl]
      rw [List.getElem?_eq_getElem hjl] at hj
      simp at hj; subst hj
      simp [List.getD, hjl, sv]) (at_lt hc h0) (by simp; omega) (by simpa using hcap) (by rw [hm]; exact hlen)
    rw [hm, List.length_map] at c
    exact c

theorem impl_join (v : Value) (B : Nat) (xs : List (List UInt8)) (w : World) (h : Holds w B v xs) (ht : total xs ≤ 4194304) :
    Calls Try.prog 19 #[v] w (JoinEnd xs w) := by
  have c1 := lib_join v B xs w h ht
  unfold JoinEnd at c1 ⊢
  generalize (⟨(join xs).toArray⟩ : ByteArray) = z at c1 ⊢
  clear h
  go_enter Try.func19, Try.ntmps19
  go_wp2_with (go_at_call 25; refine c1.mono ?_; rintro e w1 ⟨rfl, hb⟩)
  go_ret
  exact ⟨rfl, hb⟩
end Go.Proofs.Ytajojhfddedgbaa.Tx
