/-
  CONTRACT of the model's JoinList: at every slice of texts that are not too long together it returns the texts with a comma and a space between them; nothing that was there before is changed.
-/
import Derived.Test.YtbkjioggohjnfaaDoorJoinM
import Derived.LoopTactic
namespace Go.Proofs.YtbkjioggohjnfaaDoor.Tx
open Go Go.RowKit Strs
set_option linter.unusedVariables false
set_option maxRecDepth 1000000

theorem spec_join_nil (a : Option Addr) (cap : Nat) (w : World) :
    Calls Tryd.prog 35 #[.slice a 0 cap] w (JoinEnd [] w) := by
  go_enter Tryd.func35, Tryd.ntmps35
  go_wp2
  go_loop [3, 4] (fun s i => i = .int .i64 0 ∧ s = .string ⟨#[]⟩) (fun _ i => 0)
  case atStart => exact ⟨rfl, rfl⟩
  case round =>
    obtain ⟨rfl, rfl⟩ := hrel
    go_wp2
    go_ret
    exact ⟨rfl, Below.refl _ _⟩

set_option maxHeartbeats 1000000 in
theorem spec_join_some (b off cap : Nat) (xs : List (List UInt8)) (w : World) (hc : At w b off xs) (h0 : 0 < xs.length) (ht : total xs ≤ 67108864) :
    Calls Tryd.prog 35 #[.slice (some ⟨b, off, none⟩) xs.length cap] w (JoinEnd xs w) := by
  have hl : xs.length ≤ 67108864 := by unfold total at ht; omega
  have HC := Lib.hid hc
  have HT := Lib.hid ht
  clear hc ht
  go_enter Tryd.func35, Tryd.ntmps35
  go_wp2
  go_loop [3, 4] (fun s i => ∃ k : Nat, k ≤ xs.length ∧ i = .int .i64 (k : Int) ∧ s = .string ⟨(join (xs.take k)).toArray⟩) (fun _ i => xs.length - (intOf i).toNat)
  case atStart => exact ⟨0, Nat.zero_le _, rfl, rfl⟩
  case round =>
    obtain ⟨k, hk, rfl, rfl⟩ := hrel
    by_cases hlt : k < xs.length
    · have hcell := HC.out k hlt
      have HJ := Lib.hid (join_len xs k hk)
      have HP := Lib.hid (pre_more hlt)
      have HPL := Lib.hid (pre_le xs (k + 1))
      unfold sv at hcell
      by_cases hz : 0 < k
      · have hzi : 0 < (k : Int) := by omega
        have HM := Lib.hid (join_more hlt hz)
        generalize xs.getD k [] = x at *
        generalize join (xs.take k) = y at *
        have hadd1 := addtwo y [44, 32] (by have := HJ.out; have := HP.out; have := HPL.out; have := HT.out; unfold total at this; simp only [List.length_append, List.length_cons, List.length_nil]; omega)
        have hadd2 := addtwo (y ++ [44, 32]) x (by have := HJ.out; have := HP.out; have := HPL.out; have := HT.out; unfold total at this; simp only [List.length_append, List.length_cons, List.length_nil]; omega)
        go_wp2
        go_round
        case rel => exact ⟨k + 1, by omega, by go_num, by rw [HM.out]; simp⟩
        case measure => simp [intOf]; omega
      · have hzi : ¬ 0 < (k : Int) := by omega
        have h00 : join (xs.take k) = [] := by rw [show k = 0 by omega]; rfl
        have HM : Hid (join (xs.take (k + 1)) = xs.getD k []) := Lib.hid (by rw [show k = 0 by omega]; exact join_first h0)
        rw [h00]
        clear h00 HJ
        generalize xs.getD k [] = x at *
        have hadd2 : ∀ W, (Op.stringOp .add ⟨#[]⟩ ⟨x.toArray⟩).run Tryd.prog W = .ok (.string ⟨x.toArray⟩) W := addtwo [] x (by have := HP.out; have := HPL.out; have := HT.out; unfold total at this; simp only [List.length_append, List.length_cons, List.length_nil]; omega)
        go_wp2
        go_round
        case rel => exact ⟨k + 1, by omega, by go_num, by rw [HM.out]⟩
        case measure => simp [intOf]; omega
    · have HE : Hid (join (xs.take k) = join xs) := Lib.hid (by rw [List.take_of_length_le (by omega)])
      go_wp2
      go_ret
      exact ⟨ret_join HE.out, Below.refl _ _⟩

theorem spec_join (v : Value) (B : Nat) (xs : List (List UInt8)) (w : World) (h : Holds w B v xs) (ht : total xs ≤ 67108864) :
    Calls Tryd.prog 35 #[v] w (JoinEnd xs w) := by
  rcases h with ⟨rfl, a, cap, rfl⟩ | ⟨h0, b, off, cap, rfl, _, _, hc⟩
  · exact spec_join_nil a cap w
  · exact spec_join_some b off cap xs w hc h0 ht

end Go.Proofs.YtbkjioggohjnfaaDoor.Tx
