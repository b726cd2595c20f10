/-
  CONTRACTS of both sides' QuoteText: at every text each returns it as a quoted string; nothing that was there before is changed.
-/
import Derived.Test.YtajojhfddedgbaaTxMath
import Derived.Test.YtajojhfddedgbaaTokFn
import Derived.Test.YtajojhfddedgbaaBys
import Derived.LoopTactic
namespace Go.Proofs.Ytajojhfddedgbaa.Tx
open Go Go.RowKit Bys
set_option linter.unusedVariables false

/-- The quoted string when k bytes are in. -/
def quk (l : List UInt8) (k : Nat) : List UInt8 := 34 :: (l.take k).flatMap qot
theorem quk_zero (l : List UInt8) : quk l 0 = [34] := by unfold quk; simp
theorem quk_more (s : ByteArray) {k : Nat} (h : k < s.size) : quk s.data.toList (k + 1) = quk s.data.toList k ++ qot s[k] := by
  unfold quk; rw [take_snoc s k h, List.flatMap_append]; simp
theorem quk_all {l : List UInt8} {k : Nat} (h : k = l.length) : quk l k ++ [34] = quo l := by unfold quk quo; subst h; simp
theorem qot_len (c : UInt8) : (qot c).length ≤ 2 := by unfold qot; split <;> simp
theorem flat_len (l : List UInt8) : (l.flatMap qot).length ≤ 2 * l.length := by
  induction l with
  | nil => simp
  | cons a r ih => rw [List.flatMap_cons, List.length_append, List.length_cons]; have := qot_len a; omega
theorem quk_len (l : List UInt8) (k : Nat) : (quk l k).length ≤ 2 * k + 1 := by
  unfold quk; rw [List.length_cons]; have := flat_len (l.take k); have := List.length_take_le k l; omega
theorem qot_yes {c : UInt8} (h : c = 34 ∨ c = 92) : qot c = [92, c] := by unfold qot; rw [if_pos (by rcases h with h | h <;> simp [h])]
theorem qot_no {c : UInt8} (h : ¬ (c = 34 ∨ c = 92)) : qot c = [c] := by unfold qot; rw [if_neg (by simpa using h)]
theorem eq_nat {c : UInt8} {n : Nat} (hn : n < 256) : ((c.toNat : Int) == (n : Int)) = (c == UInt8.ofNat n) := by
  rw [Bool.eq_iff_iff, beq_iff_eq, beq_iff_eq]
  constructor
  · intro h; exact UInt8.toNat_inj.1 (by simp; omega)
  · intro h; rw [h]; simp; omega
theorem e34 (c : UInt8) : ((c.toNat : Int) == 34) = (c == 34) := eq_nat (n := 34) (by omega)
theorem e92 (c : UInt8) : ((c.toNat : Int) == 92) = (c == 92) := eq_nat (n := 92) (by omega)
theorem e44 (c : UInt8) : ((c.toNat : Int) == 44) = (c == 44) := eq_nat (n := 44) (by omega)

theorem two_own {B : Nat} {a w w1 w2 : World} {v v1 v2 : Value} {l : List UInt8} {c d : UInt8} {o o' : Obj} (hown : Own w B v l) (hb : Below a.heap.size a w) (hB : a.heap.size ≤ B)
    (h1 : w1.ownsRow B 5 1 v1 (l.length + 1) (bvs l ++ [bvl c])) (hg1 : (w.alloc o).grownBy w1 v.ownBlock)
    (h2 : w2.ownsRow B 5 1 v2 (l.length + 1 + 1) (bvs l ++ [bvl c] ++ [bvl d])) (hg2 : (w1.alloc o').grownBy w2 v1.ownBlock) :
    Own w2 B v2 (l ++ [c, d]) ∧ Below a.heap.size a w2 := by
  have R1 := push_own hown hb hB h1 hg1
  have R2 := push_own (c := d) R1.1 R1.2 hB (by rw [List.length_append, bvs_more]; exact h2) hg2
  rw [List.append_assoc] at R2
  exact R2

set_option maxHeartbeats 1000000 in
theorem spec_quote (s : ByteArray) (w : World) (hs : s.size ≤ 1048576) :
    Calls Try.prog 12 #[.string s] w fun e w' => e = .returned (.string ⟨(quo s.data.toList).toArray⟩) ∧ Below w.heap.size w w' := by
  obtain ⟨i0, hi, hz0, hz1, hz2⟩ := info_parts info_byte
  have HO := Lib.hid (own_lit_one w 34)
  go_enter Try.func12, Try.ntmps12
  go_wp2
  go_loopw [3, 4] (fun v i wr => ∃ k : Nat, k ≤ s.size ∧ i = .int .i64 k ∧ Own wr w.heap.size v (quk s.data.toList k) ∧ Below w.heap.size w wr) (fun _ i _ => s.size - (intOf i).toNat)
  case atStart => exact ⟨0, Nat.zero_le _, rfl, by rw [quk_zero]; exact HO.out, (Below.refl _ _).alloc (Nat.le_refl _) _⟩
  case round =>
    clear HO
    obtain ⟨k, hk, rfl, hown, hb⟩ := hrel
    have HL := Lib.hid (quk_len s.data.toList k)
    by_cases hlt : k < s.size
    · have HM := Lib.hid (quk_more s hlt)
      by_cases hc : s[k] = 34 ∨ s[k] = 92
      · have HQ := Lib.hid (qot_yes hc)
        have HS : ((s[k].toNat : Int) == 34) = true ∨ (((s[k].toNat : Int) == 34) = false ∧ ((s[k].toNat : Int) == 92) = true) := by
          rw [e34, e92]
          rcases hc with h | h
          · left; simp [h]
          · right; rw [h]; decide
        clear hc
        rcases HS with h34 | ⟨h34, h92⟩
        all_goals
          go_wp2_with (first
            | (at_builtin; refine wpList_append_own _ rfl (.tmp 22) (.tmp 23) 34 rfl w.heap.size 5 i0 (.int .u8 0) 1 1 Try.underlying34 hi hz0 hz1 hz2 rfl (by decide) _ _ _ rfl (hown.alloc _) ⟨wr.heap.size, 0, none⟩ 1 1 [.int .u8 92] rfl rfl (news_one _ _ _) (bvl_one 92) (by have := HL.out; unfold maxLen; omega) (by have := HL.out; omega) (by have := hb.size; simp; omega) ?_; intro v1 w1 hown1 hg1 _)
            | (at_builtin; refine wpList_append_own _ rfl (.tmp 25) (.tmp 29) 34 rfl w.heap.size 5 i0 (.int .u8 0) 1 1 Try.underlying34 hi hz0 hz1 hz2 rfl (by decide) _ _ _ rfl (hown1.alloc _) ⟨w1.heap.size, 0, none⟩ 1 1 [.int .u8 (s[k].toNat : Int)] rfl rfl (news_one _ _ _) (bvl_one _) (by have := HL.out; unfold maxLen; omega) (by have := HL.out; omega) (by have := hb.size; have := hg1.size; simp at *; omega) ?_; intro v2 w2 hown2 hg2 _))
          have R := Lib.hid (two_own (c := 92) (d := s[k]) hown hb (Nat.le_refl _) hown1 hg1 hown2 hg2)
          clear hown hown1 hg1 hown2 hg2 hb
          go_wp2
          go_roundw
          case rel => exact ⟨k + 1, by omega, by go_num, by rw [HM.out, HQ.out]; exact R.out.1, R.out.2⟩
          case measure => simp [intOf]; omega
      · have HQ := Lib.hid (qot_no hc)
        have h34 : ((s[k].toNat : Int) == 34) = false := by rw [e34]; simp; intro h; exact hc (Or.inl h)
        have h92 : ((s[k].toNat : Int) == 92) = false := by rw [e92]; simp; intro h; exact hc (Or.inr h)
        clear hc
        go_wp2_with (at_builtin; refine wpList_append_own _ rfl (.tmp 25) (.tmp 29) 34 rfl w.heap.size 5 i0 (.int .u8 0) 1 1 Try.underlying34 hi hz0 hz1 hz2 rfl (by decide) _ _ _ rfl (hown.alloc _) ⟨wr.heap.size, 0, none⟩ 1 1 [.int .u8 (s[k].toNat : Int)] rfl rfl (news_one _ _ _) (bvl_one _) (by have := HL.out; unfold maxLen; omega) (by have := HL.out; omega) (by have := hb.size; simp at *; omega) ?_; intro v1 w1 hown1 hg1 _)
        have R := Lib.hid (push_own (c := s[k]) hown hb (Nat.le_refl _) hown1 hg1)
        clear hown hown1 hg1 hb
        go_wp2
        go_roundw
        case rel => exact ⟨k + 1, by omega, by go_num, by rw [HM.out, HQ.out]; exact R.out.1, R.out.2⟩
        case measure => simp [intOf]; omega
    · have HE := Lib.hid (quk_all (l := s.data.toList) (k := k) (by rw [list_len]; omega))
      go_wp2_with (at_builtin; refine wpList_append_own _ rfl (.tmp 31) (.tmp 32) 34 rfl w.heap.size 5 i0 (.int .u8 0) 1 1 Try.underlying34 hi hz0 hz1 hz2 rfl (by decide) _ _ _ rfl (hown.alloc _) ⟨wr.heap.size, 0, none⟩ 1 1 [.int .u8 34] rfl rfl (news_one _ _ _) (bvl_one 34) (by have := HL.out; unfold maxLen; omega) (by have := HL.out; omega) (by have := hb.size; simp at *; omega) ?_; intro v1 w1 hown1 hg1 _; have R := Lib.hid (push_own (c := 34) hown hb (Nat.le_refl _) hown1 hg1); have hcv := own_str R.out.1)
      go_ret
      exact ⟨ret_str HE.out, R.out.2⟩

set_option maxHeartbeats 1000000 in
theorem impl_quote (s : ByteArray) (w : World) (hs : s.size ≤ 1048576) :
    Calls Try.prog 13 #[.string s] w fun e w' => e = .returned (.string ⟨(quo s.data.toList).toArray⟩) ∧ Below w.heap.size w w' := by
  obtain ⟨i0, hi, hz0, hz1, hz2⟩ := info_parts info_byte
  have HO := Lib.hid (own_lit_one w 34)
  go_enter Try.func13, Try.ntmps13
  go_wp2
  go_loopw [3, 4, 8] (fun v j i wr => ∃ k : Nat, k ≤ s.size ∧ i = .int .i64 k ∧ Own wr w.heap.size v (quk s.data.toList k) ∧ Below w.heap.size w wr) (fun _ _ i _ => s.size - (intOf i).toNat)
  case atStart => exact ⟨0, Nat.zero_le _, rfl, by rw [quk_zero]; exact HO.out, (Below.refl _ _).alloc (Nat.le_refl _) _⟩
  case round =>
    clear HO
    obtain ⟨k, hk, rfl, hown, hb⟩ := hrel
    have HL := Lib.hid (quk_len s.data.toList k)
    by_cases hlt : k < s.size
    · have HM := Lib.hid (quk_more s hlt)
      by_cases hc : s[k] = 34 ∨ s[k] = 92
      · have HQ := Lib.hid (qot_yes hc)
        have HS : ((s[k].toNat : Int) == 34) = true ∨ (((s[k].toNat : Int) == 34) = false ∧ ((s[k].toNat : Int) == 92) = true) := by
          rw [e34, e92]
          rcases hc with h | h
          · left; simp [h]
          · right; rw [h]; decide
        clear hc
        rcases HS with h34 | ⟨h34, h92⟩
        all_goals
          go_wp2_with (first
            | (at_builtin; refine wpList_append_own _ rfl (.tmp 21) (.tmp 22) 34 rfl w.heap.size 5 i0 (.int .u8 0) 1 1 Try.underlying34 hi hz0 hz1 hz2 rfl (by decide) _ _ _ rfl (hown.alloc _) ⟨wr.heap.size, 0, none⟩ 1 1 [.int .u8 92] rfl rfl (news_one _ _ _) (bvl_one 92) (by have := HL.out; unfold maxLen; omega) (by have := HL.out; omega) (by have := hb.size; simp; omega) ?_; intro v1 w1 hown1 hg1 _)
            | (at_builtin; refine wpList_append_own _ rfl (.tmp 24) (.tmp 28) 34 rfl w.heap.size 5 i0 (.int .u8 0) 1 1 Try.underlying34 hi hz0 hz1 hz2 rfl (by decide) _ _ _ rfl (hown1.alloc _) ⟨w1.heap.size, 0, none⟩ 1 1 [.int .u8 (s[k].toNat : Int)] rfl rfl (news_one _ _ _) (bvl_one _) (by have := HL.out; unfold maxLen; omega) (by have := HL.out; omega) (by have := hb.size; have := hg1.size; simp at *; omega) ?_; intro v2 w2 hown2 hg2 _))
          have R := Lib.hid (two_own (c := 92) (d := s[k]) hown hb (Nat.le_refl _) hown1 hg1 hown2 hg2)
          clear hown hown1 hg1 hown2 hg2 hb
          go_wp2
          go_roundw
          case rel => exact ⟨k + 1, by omega, by go_num, by rw [HM.out, HQ.out]; exact R.out.1, R.out.2⟩
          case measure => simp [intOf]; omega
      · have HQ := Lib.hid (qot_no hc)
        have h34 : ((s[k].toNat : Int) == 34) = false := by rw [e34]; simp; intro h; exact hc (Or.inl h)
        have h92 : ((s[k].toNat : Int) == 92) = false := by rw [e92]; simp; intro h; exact hc (Or.inr h)
        clear hc
        go_wp2_with (at_builtin; refine wpList_append_own _ rfl (.tmp 24) (.tmp 28) 34 rfl w.heap.size 5 i0 (.int .u8 0) 1 1 Try.underlying34 hi hz0 hz1 hz2 rfl (by decide) _ _ _ rfl (hown.alloc _) ⟨wr.heap.size, 0, none⟩ 1 1 [.int .u8 (s[k].toNat : Int)] rfl rfl (news_one _ _ _) (bvl_one _) (by have := HL.out; unfold maxLen; omega) (by have := HL.out; omega) (by have := hb.size; simp at *; omega) ?_; intro v1 w1 hown1 hg1 _)
        have R := Lib.hid (push_own (c := s[k]) hown hb (Nat.le_refl _) hown1 hg1)
        clear hown hown1 hg1 hb
        go_wp2
        go_roundw
        case rel => exact ⟨k + 1, by omega, by go_num, by rw [HM.out, HQ.out]; exact R.out.1, R.out.2⟩
        case measure => simp [intOf]; omega
    · have HE := Lib.hid (quk_all (l := s.data.toList) (k := k) (by rw [list_len]; omega))
      go_wp2_with (at_builtin; refine wpList_append_own _ rfl (.tmp 31) (.tmp 32) 34 rfl w.heap.size 5 i0 (.int .u8 0) 1 1 Try.underlying34 hi hz0 hz1 hz2 rfl (by decide) _ _ _ rfl (hown.alloc _) ⟨wr.heap.size, 0, none⟩ 1 1 [.int .u8 34] rfl rfl (news_one _ _ _) (bvl_one 34) (by have := HL.out; unfold maxLen; omega) (by have := HL.out; omega) (by have := hb.size; simp at *; omega) ?_; intro v1 w1 hown1 hg1 _; have R := Lib.hid (push_own (c := 34) hown hb (Nat.le_refl _) hown1 hg1); have hcv := own_str R.out.1)
      go_ret
      exact ⟨ret_str HE.out, R.out.2⟩
end Go.Proofs.Ytajojhfddedgbaa.Tx
