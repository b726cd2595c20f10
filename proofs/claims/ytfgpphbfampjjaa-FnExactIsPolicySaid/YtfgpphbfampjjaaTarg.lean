/-
  CONTRACT of the program's isTarget by itself; nothing that was there before is changed.
-/
import Derived.Test.YtfgpphbfampjjaaRqM
import Derived.Test.YtfgpphbfampjjaaRec
import Derived.Test.YtfgpphbfampjjaaShelf
import Derived.LoopTactic
import Derived.Outline
namespace Go.Proofs.Ytfgpphbfampjjaa.Targ
open Go Go.RowKit Msg
set_option linter.unusedVariables false
def BoolEnd (b : Bool) (w : World) (e : Ending) (w' : World) : Prop := e = .returned (.bool b) ∧ Below w.heap.size w w'
theorem ret_b {a b : Bool} (h : a = b) : Ending.returned (.bool a) = .returned (.bool b) := by rw [h]
theorem bsz (y : List UInt8) : (⟨y.toArray⟩ : ByteArray).size = y.length := by simp [ByteArray.size]

theorem pre47 (s : ByteArray) : Lib.hasPrefix s.data.toList [47] = (s.data.toList.head? == some 47) := by
  cases s.data.toList with
  | nil => rfl
  | cons a t =>
    unfold Lib.hasPrefix
    have : (47 == a) = (a == 47) := by rw [Bool.eq_iff_iff]; simp; exact eq_comm
    simp [List.isPrefixOf, this]
set_option maxHeartbeats 1000000 in
theorem impl_targ_s (s : ByteArray) (w : World) (hs : s.size ≤ 1048576) :
    Calls Try.prog 97 #[.string s] w (BoolEnd (targOk s.data.toList) w) := by
  have HO : Hid (targOk s.data.toList = (s.data.toList.all tb && (decide (1 ≤ s.size ∧ s.size ≤ 100) && s.data.toList.head? == some 47))) := Lib.hid (by unfold targOk; rw [Tx.list_len])
  have HP : Hid (∀ W : World, Calls Try.prog 100 #[.string s, .string ⟨#[47]⟩] W fun e w' => e = .returned (.bool (Lib.hasPrefix s.data.toList [47])) ∧ w' = W) := Lib.hid (fun W => Try.strings_HasPrefix s ⟨#[47]⟩ W)
  rw [pre47] at HP
  unfold BoolEnd
  by_cases h1 : 100 < (s.size : Int)
  · have HE : Hid (targOk s.data.toList = false) := Lib.hid (by rw [HO.out, decide_eq_false (by omega), Bool.false_and, Bool.and_false])
    clear HO HP
    go_enter Try.func97, Try.ntmps97
    go_wp2
    go_ret
    exact ⟨ret_b HE.out.symm, Below.refl _ _⟩
  cases hp : (s.data.toList.head? == some 47) with
  | false =>
    have HE : Hid (targOk s.data.toList = false) := Lib.hid (by rw [HO.out, hp, Bool.and_false, Bool.and_false])
    rw [hp] at HP
    clear HO hp
    go_enter Try.func97, Try.ntmps97
    go_wp2_with (fail)
    go_at_call 100
    refine (HP.out _).mono ?_
    rintro e w1 ⟨rfl, hw⟩
    rw [hw]
    go_wp2
    go_ret
    exact ⟨ret_b HE.out.symm, Below.refl _ _⟩
  | true =>
    have HE : Hid (targOk s.data.toList = s.data.toList.all tb) := Lib.hid (by
      have h0 : 1 ≤ s.size := by
        rw [← Tx.list_len]
        cases hl : s.data.toList with
        | nil => rw [hl] at hp; cases hp
        | cons a t => simp
      rw [HO.out, hp, decide_eq_true (by omega), Bool.and_true, Bool.and_true])
    rw [hp] at HP
    clear HO hp
    go_enter Try.func97, Try.ntmps97
    go_wp2_with (fail)
    go_at_call 100
    refine (HP.out _).mono ?_
    rintro e w1 ⟨rfl, hw⟩
    rw [hw]
    clear hw
    go_wp2
    go_loop [3, 14] (fun j i => ∃ k : Nat, k ≤ s.size ∧ i = .int .i64 k ∧ (s.data.toList.take k).all tb = true) (fun _ i => s.size - (intOf i).toNat)
    case atStart => exact ⟨0, Nat.zero_le _, rfl, rfl⟩
    case round =>
      obtain ⟨k, hk, rfl, ha⟩ := hrel
      have HA := Lib.hid ha
      clear ha
      by_cases hlt : k < s.size
      · have hb255 : (s[k].toNat : Int) ≤ 255 := by have := s[k].toNat_lt; omega
        rcases hc : tb s[k] with _ | _
        · have HT := Lib.hid (all_bad hlt hc)
          rcases tb_no hc with q | q
          · have q1 : (s[k].toNat : Int) ≤ 32 := by omega
            clear hc q
            go_wp2
            go_ret
            exact ⟨ret_b (by rw [HE.out, HT.out]), Below.refl _ _⟩
          · have q1 : ¬ (s[k].toNat : Int) ≤ 32 := by omega
            clear hc
            go_wp2
            go_ret
            exact ⟨ret_b (by rw [HE.out, HT.out]), Below.refl _ _⟩
        · have HT := Lib.hid (all_more hlt HA.out hc)
          obtain ⟨q1, q2⟩ := tb_yes hc
          have q3 : ¬ (s[k].toNat : Int) ≤ 32 := by omega
          have q4 : ¬ 126 < (s[k].toNat : Int) := by omega
          clear hc q1 q2
          go_wp2
          go_round
          case rel => exact ⟨k + 1, by omega, by go_num, HT.out⟩
          case measure => simp [intOf]; omega
      · have HT := Lib.hid (all_end (show k = s.size by omega) HA.out)
        go_wp2
        go_ret
        exact ⟨ret_b (by rw [HE.out, HT.out]), Below.refl _ _⟩
theorem impl_targ (t : List UInt8) (w : World) (ht : t.length ≤ 1048576) :
    Calls Try.prog 97 #[.string ⟨t.toArray⟩] w (BoolEnd (targOk t) w) := impl_targ_s ⟨t.toArray⟩ w (by rw [bsz]; exact ht)
end Go.Proofs.Ytfgpphbfampjjaa.Targ
