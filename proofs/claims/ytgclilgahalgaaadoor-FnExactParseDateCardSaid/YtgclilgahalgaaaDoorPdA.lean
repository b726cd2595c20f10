/-
  CONTRACTS of the program's looseNumber, fullYear, monthOf and timeOf; nothing that was there before is changed.
-/
import Derived.Test.YtgclilgahalgaaaDoorPdM
import Derived.Test.YtgclilgahalgaaaDoorDateI
import Derived.Test.YtgclilgahalgaaaDoorDayI
import Derived.Test.YtgclilgahalgaaaDoorRegS
import Derived.Test.YtgclilgahalgaaaDoorIdxA
namespace Go.Proofs.YtgclilgahalgaaaDoor.Dt
open Go Go.RowKit
set_option linter.unusedVariables false

theorem ret_i {a b : Int} (h : a = b) : Ending.returned (.int .i64 a) = .returned (.int .i64 b) := by rw [h]
theorem llen (s : ByteArray) : s.data.toList.length = s.size := by rw [Array.length_toList]; rfl
theorem loose_take {s : ByteArray} {k : Nat} (h : k < s.size) : loose (s.data.toList.take (k + 1)) = loose (s.data.toList.take k) * 10 + lz s[k] := by
  have hl : k < s.data.toList.length := by rw [llen]; exact h
  rw [List.take_succ_eq_append_getElem hl, loose_snoc]
  rfl

set_option maxHeartbeats 1000000 in
theorem impl_loose (s : ByteArray) (w : World) (hs : s.size ≤ 8) :
    Calls Tryd.prog 24 #[.string s] w fun e w' => e = .returned (.int .i64 (loose s.data.toList)) ∧ w = w' := by
  go_enter Tryd.func24, Tryd.ntmps24
  go_wp2
  go_loop [3, 4, 7] (fun n j i => ∃ k : Nat, k ≤ s.size ∧ i = .int .i64 k ∧ n = .int .i64 (loose (s.data.toList.take k))) (fun _ _ i => s.size - (intOf i).toNat)
  case atStart => exact ⟨0, Nat.zero_le _, rfl, rfl⟩
  case round =>
    obtain ⟨k, hk, rfl, rfl⟩ := hrel
    by_cases hlt : k < s.size
    · have HM := Lib.hid (loose_take hlt)
      have hb := loose_bd (s.data.toList.take k)
      have hp : (10 : Int) ^ (s.data.toList.take k).length ≤ 10 ^ 8 := by
        exact_mod_cast Nat.pow_le_pow_right (by decide) (by rw [List.length_take]; omega)
      have h8 : (10 : Int) ^ 8 = 100000000 := by decide
      have hb0 : 0 ≤ loose (s.data.toList.take k) := hb.1
      have hb1 : loose (s.data.toList.take k) ≤ 100000000 := by omega
      clear hb hp h8
      generalize loose (s.data.toList.take k) = x at HM hb0 hb1
      have hki : (k : Int) < (s.size : Int) := by omega
      have hb255 : (s[k].toNat : Int) ≤ 255 := by have := s[k].toNat_lt; omega
      by_cases h48 : 48 ≤ (s[k].toNat : Int)
      · by_cases h57 : (s[k].toNat : Int) ≤ 57
        · have HZ : Hid (lz s[k] = (s[k].toNat : Int) - 48) := Lib.hid (by unfold lz; rw [if_pos ⟨by omega, by omega⟩])
          go_wp2
          go_round
          case rel => exact ⟨k + 1, by omega, by go_num, by rw [HM.out, HZ.out]; try go_num⟩
          case measure => simp [intOf]; omega
        · have HZ : Hid (lz s[k] = 0) := Lib.hid (by unfold lz; rw [if_neg (by omega)])
          go_wp2
          go_round
          case rel => exact ⟨k + 1, by omega, by go_num, by rw [HM.out, HZ.out]; try go_num⟩
          case measure => simp [intOf]; omega
      · have HZ : Hid (lz s[k] = 0) := Lib.hid (by unfold lz; rw [if_neg (by omega)])
        go_wp2
        go_round
        case rel => exact ⟨k + 1, by omega, by go_num, by rw [HM.out, HZ.out]; try go_num⟩
        case measure => simp [intOf]; omega
    · have HE : Hid (loose (s.data.toList.take k) = loose s.data.toList) := Lib.hid (by rw [List.take_of_length_le (by rw [llen]; omega)])
      have hki : ¬ (k : Int) < (s.size : Int) := by omega
      go_wp2
      go_ret
      exact ⟨ret_i HE.out, rfl⟩

theorem impl_full (y : Int) (w : World) (h0 : 0 ≤ y) (h1 : y ≤ 99) : Calls Tryd.prog 26 #[.int .i64 y] w fun e w' => e = .returned (.int .i64 (if y < 70 then 2000 + y else 1900 + y)) ∧ w = w' := by
  by_cases h : y < 70
  · rw [if_pos h]
    go_enter Tryd.func26, Tryd.ntmps26
    go_wp2
    go_ret
    exact ⟨ret_i (by omega), rfl⟩
  · rw [if_neg h]
    go_enter Tryd.func26, Tryd.ntmps26
    go_wp2
    go_ret
    exact ⟨ret_i (by omega), rfl⟩

theorem mon_miss {n : List UInt8} (h : ∀ k, k < 12 → mnm k ≠ n) : monOf n = 0 := by
  have hm : n ∉ mons12 := by
    intro hm
    obtain ⟨k, hk, e⟩ := List.getElem_of_mem hm
    have hk12 : k < 12 := hk
    apply h k hk12
    unfold mnm
    rw [← e]
    simp [List.getD, List.getElem?_eq_getElem hk]
  unfold monOf
  rw [List.idxOf_eq_length hm]
  rfl
theorem monOf_bd (n : List UInt8) : 0 ≤ monOf n ∧ monOf n ≤ 12 := by unfold monOf; split <;> omega
theorem mon_hit {k : Nat} (h : k < 12) : monOf (mnm k) = (k : Int) + 1 := by
  obtain ⟨a, b, c, e, h2⟩ := monOf_mnm h
  rw [e]; exact h2
theorem mons_lit (w : World) (h : Names w) : ∀ k, k < 12 → w.cell? ⟨0, k, none⟩ = some (.string ⟨(mnm k).toArray⟩) := fun k hk => mon_cell h hk

set_option maxHeartbeats 4000000 in
set_option maxRecDepth 100000 in
theorem impl_mon (n : List UInt8) (w : World) (hn : Names w) :
    Calls Tryd.prog 32 #[.string ⟨n.toArray⟩] w fun e w' => e = .returned (.int .i64 (monOf n)) ∧ w = w' := by
  have m0 := mons_lit w hn 0 (by decide)
  have m1 := mons_lit w hn 1 (by decide)
  have m2 := mons_lit w hn 2 (by decide)
  have m3 := mons_lit w hn 3 (by decide)
  have m4 := mons_lit w hn 4 (by decide)
  have m5 := mons_lit w hn 5 (by decide)
  have m6 := mons_lit w hn 6 (by decide)
  have m7 := mons_lit w hn 7 (by decide)
  have m8 := mons_lit w hn 8 (by decide)
  have m9 := mons_lit w hn 9 (by decide)
  have m10 := mons_lit w hn 10 (by decide)
  have m11 := mons_lit w hn 11 (by decide)
  have HH := Lib.hid (fun k (h : k < 12) => mon_hit h)
  have HM := Lib.hid (mon_miss (n := n))
  clear hn
  generalize mnm = f at *
  go_enter Tryd.func32, Tryd.ntmps32
  go_wp2
  go_loop [3, 4, 6] (fun _ _ i => ∃ k : Nat, k ≤ 12 ∧ i = .int .i64 k ∧ ∀ j, j < k → f j ≠ n) (fun _ _ i => 12 - (intOf i).toNat)
  case atStart => exact ⟨0, by omega, rfl, fun j hj => absurd hj (by omega)⟩
  case round =>
    obtain ⟨k, hk, rfl, hno⟩ := hrel
    have HN := Lib.hid hno
    clear hno
    by_cases hlt : k < 12
    · have HX := Lib.hid (HH.out k hlt)
      have HNN : Hid (f k ≠ n → ∀ j, j < k + 1 → f j ≠ n) := Lib.hid (fun e j hj => by
        rcases Nat.lt_or_ge j k with h' | h'
        · exact HN.out j h'
        · have : j = k := by omega
          subst this; exact e)
      have hx := fun W => idx12 f k hlt W
      unfold twelve at hx
      have hki : (k : Int) < 12 := by omega
      clear HH HM HN hk
      by_cases e : f k = n
      · subst e
        clear HNN
        go_wp2
        go_ret
        exact ⟨ret_i HX.out.symm, rfl⟩
      · have HE := Lib.hid (HNN.out e)
        have hq : (f k == n) = false := by simpa using e
        clear HNN HX e
        go_wp2
        go_round
        case rel => exact ⟨k + 1, by omega, by go_num, HE.out⟩
        case measure => simp [intOf]; omega
    · obtain rfl : k = 12 := by omega
      have HE := Lib.hid (HM.out (fun j hj => HN.out j hj))
      go_wp2
      go_ret
      exact ⟨ret_i HE.out.symm, rfl⟩
end Go.Proofs.YtgclilgahalgaaaDoor.Dt
