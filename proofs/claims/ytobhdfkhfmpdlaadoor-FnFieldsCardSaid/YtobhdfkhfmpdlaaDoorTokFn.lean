/-
  CONTRACTS of both sides' IsToken: at every text each returns whether it is a token; the world stays as it was.
-/
import Derived.Test.YtobhdfkhfmpdlaaDoorTok
import Derived.Test.YtobhdfkhfmpdlaaDoorTokList
namespace Go.Proofs.YtobhdfkhfmpdlaaDoor.Tx
open Go Go.RowKit
set_option linter.unusedVariables false
set_option maxRecDepth 1000000

theorem all_more {s : ByteArray} {k : Nat} (h : k < s.size) (ha : (s.data.toList.take k).all tokc = true) (hc : tokc s[k] = true) : (s.data.toList.take (k + 1)).all tokc = true := by
  rw [take_snoc s k h, List.all_append, ha, List.all_cons, hc]; rfl
theorem token_bad {s : ByteArray} {k : Nat} (h : k < s.size) (hc : tokc s[k] = false) : token s.data.toList = false := by
  unfold token
  have : s.data.toList.all tokc = false := by
    rw [Bool.eq_false_iff]
    intro ha
    have hm : s[k] ∈ s.data.toList := by
      rw [← List.take_append_drop k s.data.toList, drop_cons s k h]; simp
    have := List.all_eq_true.1 ha _ hm
    rw [hc] at this; cases this
  rw [this, Bool.false_and]
theorem token_all {s : ByteArray} {k : Nat} (h : k = s.size) (ha : (s.data.toList.take k).all tokc = true) : token s.data.toList = decide (1 ≤ (s.size : Int) ∧ (s.size : Int) ≤ 40) := by
  have e : s.data.toList.take k = s.data.toList := List.take_of_length_le (by rw [list_len]; omega)
  rw [e] at ha
  unfold token
  rw [ha, Bool.true_and, list_len, Bool.eq_iff_iff]; simp; omega
theorem token_len {s : ByteArray} (h : s.size < 1 ∨ 40 < s.size) : token s.data.toList = false := by
  unfold token
  rw [list_len]
  have : decide (1 ≤ s.size ∧ s.size ≤ 40) = false := by simp; omega
  rw [this, Bool.and_false]

set_option maxHeartbeats 1000000 in
theorem spec_token (s : ByteArray) (w : World) (hs : s.size ≤ 9223372036854775806) :
    Calls Tryd.prog 34 #[.string s] w fun e w' => e = .returned (.bool (token s.data.toList)) ∧ w = w' := by
  go_enter Tryd.func34, Tryd.ntmps34
  go_wp2
  go_loop [3] (fun i => ∃ k : Nat, k ≤ s.size ∧ i = .int .i64 k ∧ (s.data.toList.take k).all tokc = true) (fun i => s.size - (intOf i).toNat)
  case atStart => exact ⟨0, Nat.zero_le _, rfl, rfl⟩
  case round =>
    obtain ⟨k, hk, rfl, ha⟩ := hrel
    have HA := Lib.hid ha
    clear ha
    by_cases hlt : k < s.size
    · have hc1 := tok_spec s[k]
      rcases hc : tokc s[k] with _ | _
      · have HT := Lib.hid (token_bad hlt hc)
        rw [hc] at hc1
        clear hc
        go_wp2_with (go_at_call 71; refine (hc1 _).mono ?_; rintro e w' ⟨rfl, rfl⟩)
        go_ret
        exact ⟨ret_bool HT.out.symm, rfl⟩
      · have HT := Lib.hid (all_more hlt HA.out hc)
        rw [hc] at hc1
        clear hc
        go_wp2_with (go_at_call 71; refine (hc1 _).mono ?_; rintro e w' ⟨rfl, rfl⟩)
        go_round
        case rel => exact ⟨k + 1, by omega, by go_num, HT.out⟩
        case measure => simp [intOf]; omega
    · have HT := Lib.hid (token_all (show k = s.size by omega) HA.out)
      by_cases hz : 1 ≤ (s.size : Int) ∧ (s.size : Int) ≤ 40
      · obtain ⟨z1, z2⟩ := hz
        go_wp2_with (go_at_call 70; refine (NumDiv.in_yes _ _ _ _ z1 z2).mono ?_; rintro e w' ⟨rfl, rfl⟩)
        go_ret
        exact ⟨ret_bool (by rw [HT.out]; simp; omega), rfl⟩
      · have HZ := Lib.hid hz
        clear hz
        go_wp2_with (go_at_call 70; refine (NumDiv.in_no _ _ _ _ (by have := HZ.out; omega)).mono ?_; rintro e w' ⟨rfl, rfl⟩)
        go_ret
        exact ⟨ret_bool (by rw [HT.out]; symm; simp; have := HZ.out; omega), rfl⟩

set_option maxHeartbeats 1000000 in
theorem impl_token (s : ByteArray) (w : World) (hs : s.size ≤ 9223372036854775806) :
    Calls Tryd.prog 64 #[.string s] w fun e w' => e = .returned (.bool (token s.data.toList)) ∧ w = w' := by
  by_cases h1 : (s.size : Int) < 1
  · have HT := Lib.hid (token_len (s := s) (Or.inl (by omega)))
    go_enter Tryd.func64, Tryd.ntmps64
    go_wp2
    go_ret
    exact ⟨ret_bool HT.out.symm, rfl⟩
  · by_cases h2 : 40 < (s.size : Int)
    · have HT := Lib.hid (token_len (s := s) (Or.inr (by omega)))
      go_enter Tryd.func64, Tryd.ntmps64
      go_wp2
      go_ret
      exact ⟨ret_bool HT.out.symm, rfl⟩
    · go_enter Tryd.func64, Tryd.ntmps64
      go_wp2
      go_loop [3, 14] (fun j i => ∃ k : Nat, k ≤ s.size ∧ i = .int .i64 k ∧ (s.data.toList.take k).all tokc = true) (fun _ i => s.size - (intOf i).toNat)
      case atStart => exact ⟨0, Nat.zero_le _, rfl, rfl⟩
      case round =>
        obtain ⟨k, hk, rfl, ha⟩ := hrel
        have HA := Lib.hid ha
        clear ha
        by_cases hlt : k < s.size
        · have hc1 := tok_byte s[k]
          rcases hc : tokc s[k] with _ | _
          · have HT := Lib.hid (token_bad hlt hc)
            rw [hc] at hc1
            clear hc
            go_wp2_with (go_at_call 81; refine (hc1 _).mono ?_; rintro e w' ⟨rfl, rfl⟩)
            go_ret
            exact ⟨ret_bool HT.out.symm, rfl⟩
          · have HT := Lib.hid (all_more hlt HA.out hc)
            rw [hc] at hc1
            clear hc
            go_wp2_with (go_at_call 81; refine (hc1 _).mono ?_; rintro e w' ⟨rfl, rfl⟩)
            go_round
            case rel => exact ⟨k + 1, by omega, by go_num, HT.out⟩
            case measure => simp [intOf]; omega
        · have HT := Lib.hid (token_all (show k = s.size by omega) HA.out)
          have HB := Lib.hid (And.intro h1 h2)
          go_wp2
          go_ret
          exact ⟨ret_bool (by rw [HT.out]; symm; simp; have := HB.out; omega), rfl⟩
end Go.Proofs.YtobhdfkhfmpdlaaDoor.Tx
