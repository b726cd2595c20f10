/-
  CONTRACT of the model's UnquoteText: at every text it returns what a quoted string means and whether the text is just one; nothing that was there before is changed.
-/
import Derived.Test.YtkmkmgbehnedoaaDoorUnqM
import Derived.LoopTactic
import Derived.Deep.QuietTactic
import Derived.BigQuiet
namespace Go.Proofs.YtkmkmgbehnedoaaDoor.Tx
open Go Go.RowKit Bys
set_option linter.unusedVariables false

set_option maxRecDepth 100000 in
set_option maxHeartbeats 2000000 in
theorem spec_unquote (s : ByteArray) (w : World) (hs : s.size ≤ 1048576) :
    Calls Tryd.prog 103 #[.string s] w (Unq s.data.toList w) := by
  obtain ⟨i0, hi, hz0, hz1, hz2⟩ := info_parts info_byte
  have HO := Lib.hid (own_lit_nil w)
  go_enter Tryd.func103, Tryd.ntmps103
  go_wp2
  go_loopw [4, 5] (fun v i wr => ∃ (k : Nat) (l : List UInt8), 1 ≤ k ∧ k ≤ s.size + 1 ∧ i = .int .i64 k ∧ Own wr w.heap.size v l ∧ UQ s k l ∧ Below w.heap.size w wr) (fun _ i _ => s.size + 1 - (intOf i).toNat)
  case atStart => exact ⟨1, [], by omega, by omega, rfl, HO.out, uq_start s, (Below.refl _ _).alloc (Nat.le_refl _) _⟩
  case round =>
    clear HO
    obtain ⟨k, l, hk1, hk, rfl, hown, hq, hb⟩ := hrel
    have HL := Lib.hid hq.2.2
    have HQ := Lib.hid hq
    clear hq
    by_cases hlt : k < s.size
    · by_cases hc : s[k] = 34
      · have hz : 0 < s.size := by omega
        have HE := Lib.hid (uq_quote HQ.out hlt hc hz)
        have h34 : ((s[k].toNat : Int) == 34) = true := by rw [e34]; simp [hc]
        have hcv : ∀ n, (convert 22 9 u4).run Tryd.prog (wr.drewN n) = .ok (.string ⟨l.toArray⟩) (wr.drewN n) := fun n => own_str (w := wr.drewN n) (B := w.heap.size) hown
        have HB := Lib.hid hb
        clear hc hown hb
        by_cases h0 : s[0] = 34
        · have g0 : ((s[0].toNat : Int) == 34) = true := by rw [e34]; simp [h0]
          rcases hg1 : ((k : Int) == (s.size : Int) - 1) with _ | _
          all_goals
            rw [hg1, h0] at HE
            clear h0
            go_wp2
            go_quiet (fail)
            go_wp2
            go_ret2
            exact unq_ret HE.out (below_drewN HB.out _) rfl
        · have g0 : ((s[0].toNat : Int) == 34) = false := by rw [e34]; simpa using h0
          have g1 : (s[0] == 34) = false := by simpa using h0
          rw [g1, Bool.false_and] at HE
          clear h0 g1
          go_wp2
          go_quiet (fail)
          go_wp2
          go_ret2
          exact unq_ret HE.out (below_drewN HB.out _) rfl
      · have h34 : ((s[k].toNat : Int) == 34) = false := by rw [e34]; simpa using hc
        by_cases he : s[k] = 92
        · have h92 : ((s[k].toNat : Int) == 92) = true := by rw [e92]; simp [he]
          by_cases hlt1 : k + 1 < s.size
          · have HE := Lib.hid (uq_esc HQ.out hlt hlt1 he)
            have hlt2 : ((k : Int) + 1 < (s.size : Int)) := by omega
            clear hc he
            go_wp2_with (at_builtin; refine wpList_append_own _ rfl (.tmp 50) (.tmp 54) 22 rfl w.heap.size 5 i0 (.int .u8 0) 1 1 Tryd.underlying22 hi hz0 hz1 hz2 rfl (by decide) _ _ _ rfl (hown.alloc _) ⟨wr.heap.size, 0, none⟩ 1 1 [.int .u8 (s[k + 1].toNat : Int)] rfl rfl (news_one _ _ _) (bvl_one _) (by have := HL.out; unfold maxLen; omega) (by have := HL.out; omega) (by have := hb.size; simp; omega) ?_; intro v1 w1 hown1 hg1 _)
            have R := Lib.hid (push_own (c := s[k + 1]) hown hb (Nat.le_refl _) hown1 hg1)
            clear hown hown1 hg1 hb
            go_wp2
            go_roundw
            case rel => exact ⟨k + 1 + 1, _, by omega, by omega, by go_num, R.out.1, HE.out, R.out.2⟩
            case measure => simp [intOf]; omega
          · have HE := Lib.hid (uq_plain HQ.out hlt hc (Or.inr (by omega)))
            have hlt2 : ¬ ((k : Int) + 1 < (s.size : Int)) := by omega
            clear hc he
            go_wp2_with (at_builtin; refine wpList_append_own _ rfl (.tmp 13) (.tmp 17) 22 rfl w.heap.size 5 i0 (.int .u8 0) 1 1 Tryd.underlying22 hi hz0 hz1 hz2 rfl (by decide) _ _ _ rfl (hown.alloc _) ⟨wr.heap.size, 0, none⟩ 1 1 [.int .u8 (s[k].toNat : Int)] rfl rfl (news_one _ _ _) (bvl_one _) (by have := HL.out; unfold maxLen; omega) (by have := HL.out; omega) (by have := hb.size; simp; omega) ?_; intro v1 w1 hown1 hg1 _)
            have R := Lib.hid (push_own (c := s[k]) hown hb (Nat.le_refl _) hown1 hg1)
            clear hown hown1 hg1 hb
            go_wp2
            go_roundw
            case rel => exact ⟨k + 1, _, by omega, by omega, by go_num, R.out.1, HE.out, R.out.2⟩
            case measure => simp [intOf]; omega
        · have h92 : ((s[k].toNat : Int) == 92) = false := by rw [e92]; simpa using he
          have HE := Lib.hid (uq_plain HQ.out hlt hc (Or.inl he))
          clear hc he
          go_wp2_with (at_builtin; refine wpList_append_own _ rfl (.tmp 13) (.tmp 17) 22 rfl w.heap.size 5 i0 (.int .u8 0) 1 1 Tryd.underlying22 hi hz0 hz1 hz2 rfl (by decide) _ _ _ rfl (hown.alloc _) ⟨wr.heap.size, 0, none⟩ 1 1 [.int .u8 (s[k].toNat : Int)] rfl rfl (news_one _ _ _) (bvl_one _) (by have := HL.out; unfold maxLen; omega) (by have := HL.out; omega) (by have := hb.size; simp; omega) ?_; intro v1 w1 hown1 hg1 _)
          have R := Lib.hid (push_own (c := s[k]) hown hb (Nat.le_refl _) hown1 hg1)
          clear hown hown1 hg1 hb
          go_wp2
          go_roundw
          case rel => exact ⟨k + 1, _, by omega, by omega, by go_num, R.out.1, HE.out, R.out.2⟩
          case measure => simp [intOf]; omega
    · have HE := Lib.hid (uq_end HQ.out (by omega))
      have hcv := own_str hown
      have HB := Lib.hid hb
      clear hown hb
      go_wp2
      go_ret2
      exact unq_ret HE.out HB.out rfl
end Go.Proofs.YtkmkmgbehnedoaaDoor.Tx
