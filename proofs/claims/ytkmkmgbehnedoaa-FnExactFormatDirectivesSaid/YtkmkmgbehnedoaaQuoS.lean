/-
  CONTRACT of the model's QuoteText: at every text it returns it as a quoted string; nothing that was there before is changed.
-/
import Derived.Test.YtkmkmgbehnedoaaQuoM
import Derived.LoopTactic
namespace Go.Proofs.Ytkmkmgbehnedoaa.Tx
open Go Go.RowKit Bys
set_option linter.unusedVariables false

set_option maxHeartbeats 1000000 in
theorem spec_quote (s : ByteArray) (w : World) (hs : s.size ≤ 1048576) :
    Calls Try.prog 17 #[.string s] w fun e w' => e = .returned (.string ⟨(quo s.data.toList).toArray⟩) ∧ Below w.heap.size w w' := by
  obtain ⟨i0, hi, hz0, hz1, hz2⟩ := info_parts info_byte
  have HO := Lib.hid (own_lit_one w 34)
  go_enter Try.func17, Try.ntmps17
  go_wp2
  go_loopw [3, 4] (fun v i wr => ∃ k : Nat, k ≤ s.size ∧ i = .int .i64 k ∧ Own wr w.heap.size v (quk s.data.toList k) ∧ Below w.heap.size w wr) (fun _ i _ => s.size - (intOf i).toNat)
  case atStart => exact ⟨0, Nat.zero_le _, rfl, by rw [quk_zero]; exact HO.out, (Below.refl _ _).alloc (Nat.le_refl _) _⟩
  case round =>
    clear HO
    obtain ⟨k, hk, rfl, hown, hb⟩ := hrel
    have HL := Lib.hid (quk_len s.data.toList k)
    by_cases hlt : k < s.size
    · have HM := Lib.hid (quk_more s hlt)
      by_cases hc : s[k] = 34 ∨ s[k] = 92
      · have HQ := Lib.hid (qot_yes hc)
        have HS : ((s[k].toNat : Int) == 34) = true ∨ (((s[k].toNat : Int) == 34) = false ∧ ((s[k].toNat : Int) == 92) = true) := by
          rw [e34, e92]
          rcases hc with h | h
          · left; simp [h]
          · right; rw [h]; decide
        clear hc
        rcases HS with h34 | ⟨h34, h92⟩
        all_goals
          go_wp2_with (first
            | (at_builtin; refine wpList_append_own _ rfl (.tmp 22) (.tmp 23) 45 rfl w.heap.size 5 i0 (.int .u8 0) 1 1 Try.underlying45 hi hz0 hz1 hz2 rfl (by decide) _ _ _ rfl (hown.alloc _) ⟨wr.heap.size, 0, none⟩ 1 1 [.int .u8 92] rfl rfl (news_one _ _ _) (bvl_one 92) (by have := HL.out; unfold maxLen; omega) (by have := HL.out; omega) (by have := hb.size; simp; omega) ?_; intro v1 w1 hown1 hg1 _)
            | (at_builtin; refine wpList_append_own _ rfl (.tmp 25) (.tmp 29) 45 rfl w.heap.size 5 i0 (.int .u8 0) 1 1 Try.underlying45 hi hz0 hz1 hz2 rfl (by decide) _ _ _ rfl (hown1.alloc _) ⟨w1.heap.size, 0, none⟩ 1 1 [.int .u8 (s[k].toNat : Int)] rfl rfl (news_one _ _ _) (bvl_one _) (by have := HL.out; unfold maxLen; omega) (by have := HL.out; omega) (by have := hb.size; have := hg1.size; simp at *; omega) ?_; intro v2 w2 hown2 hg2 _))
          have R := Lib.hid (two_own (c := 92) (d := s[k]) hown hb (Nat.le_refl _) hown1 hg1 hown2 hg2)
          clear hown hown1 hg1 hown2 hg2 hb
          go_wp2
          go_roundw
          case rel => exact ⟨k + 1, by omega, by go_num, by rw [HM.out, HQ.out]; exact R.out.1, R.out.2⟩
          case measure => simp [intOf]; omega
      · have HQ := Lib.hid (qot_no hc)
        have h34 : ((s[k].toNat : Int) == 34) = false := by rw [e34]; simp; intro h; exact hc (Or.inl h)
        have h92 : ((s[k].toNat : Int) == 92) = false := by rw [e92]; simp; intro h; exact hc (Or.inr h)
        clear hc
        go_wp2_with (at_builtin; refine wpList_append_own _ rfl (.tmp 25) (.tmp 29) 45 rfl w.heap.size 5 i0 (.int .u8 0) 1 1 Try.underlying45 hi hz0 hz1 hz2 rfl (by decide) _ _ _ rfl (hown.alloc _) ⟨wr.heap.size, 0, none⟩ 1 1 [.int .u8 (s[k].toNat : Int)] rfl rfl (news_one _ _ _) (bvl_one _) (by have := HL.out; unfold maxLen; omega) (by have := HL.out; omega) (by have := hb.size; simp at *; omega) ?_; intro v1 w1 hown1 hg1 _)
        have R := Lib.hid (push_own (c := s[k]) hown hb (Nat.le_refl _) hown1 hg1)
        clear hown hown1 hg1 hb
        go_wp2
        go_roundw
        case rel => exact ⟨k + 1, by omega, by go_num, by rw [HM.out, HQ.out]; exact R.out.1, R.out.2⟩
        case measure => simp [intOf]; omega
    · have HE := Lib.hid (quk_all (l := s.data.toList) (k := k) (by rw [list_len]; omega))
      go_wp2_with (at_builtin; refine wpList_append_own _ rfl (.tmp 31) (.tmp 32) 45 rfl w.heap.size 5 i0 (.int .u8 0) 1 1 Try.underlying45 hi hz0 hz1 hz2 rfl (by decide) _ _ _ rfl (hown.alloc _) ⟨wr.heap.size, 0, none⟩ 1 1 [.int .u8 34] rfl rfl (news_one _ _ _) (bvl_one 34) (by have := HL.out; unfold maxLen; omega) (by have := HL.out; omega) (by have := hb.size; simp at *; omega) ?_; intro v1 w1 hown1 hg1 _; have R := Lib.hid (push_own (c := 34) hown hb (Nat.le_refl _) hown1 hg1); have hcv := own_str R.out.1)
      go_ret
      exact ⟨ret_str HE.out, R.out.2⟩

end Go.Proofs.Ytkmkmgbehnedoaa.Tx
