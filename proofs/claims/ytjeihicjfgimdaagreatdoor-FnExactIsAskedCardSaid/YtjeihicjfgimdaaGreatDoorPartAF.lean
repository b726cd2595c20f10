/-
  CONTRACTS AND PLAIN FACTS, several texts in one; each says in its own words what it proves.
-/
import Derived.Test.YtjeihicjfgimdaaGreatDoorPartH
import Derived.Test.YtjeihicjfgimdaaGreatDoorPartAA
import Derived.Test.YtjeihicjfgimdaaGreatDoorPartAE
import Derived.LoopTactic
import Derived.Deep.QuietTactic
import Derived.BigQuiet
import Derived.Test.YtjeihicjfgimdaaGreatDoorPartAD
set_option linter.unusedSimpArgs false
set_option linter.unusedVariables false

/-
  PLAIN FACTS on a quoted string that is being read.
-/
namespace Go.Proofs.YtjeihicjfgimdaaGreatDoor.Tx
open Go Go.RowKit Bys
set_option linter.unusedVariables false
set_option maxRecDepth 1000000

theorem unq_nil : unq [] = ([], none) := by rw [unq]
theorem unq_34 (r : List UInt8) : unq (34 :: r) = ([], some r) := by cases r <;> simp [unq]
theorem unq_esc (d : UInt8) (r : List UInt8) : unq (92 :: d :: r) = (d :: (unq r).1, (unq r).2) := by rw [unq, if_neg (by decide), if_pos (by decide)]
theorem unq_plain {c : UInt8} {r : List UInt8} (h1 : c ≠ 34) (h2 : c ≠ 92 ∨ r = []) : unq (c :: r) = (c :: (unq r).1, (unq r).2) := by
  have h34 : ¬ (c == 34) = true := by simpa using h1
  cases r with
  | nil => simp [unq, h1]
  | cons d t =>
    rcases h2 with h2 | h2
    · rw [unq, if_neg h34, if_neg (by simpa using h2)]
    · cases h2
/-- What is read when k bytes are behind: l so far. -/
def UQ (s : ByteArray) (k : Nat) (l : List UInt8) : Prop := l ++ (unq (s.data.toList.drop k)).1 = unqText s.data.toList ∧ (unq (s.data.toList.drop k)).2 = (unq (s.data.toList.drop 1)).2 ∧ l.length ≤ k
theorem uq_start (s : ByteArray) : UQ s 1 [] := ⟨by unfold unqText; simp, rfl, by simp⟩
theorem uq_plain {s : ByteArray} {k : Nat} {l : List UInt8} (h : UQ s k l) (hk : k < s.size) (h1 : s[k] ≠ 34) (h2 : s[k] ≠ 92 ∨ s.size ≤ k + 1) : UQ s (k + 1) (l ++ [s[k]]) := by
  obtain ⟨a, b, c⟩ := h
  have h2' : s[k] ≠ 92 ∨ s.data.toList.drop (k + 1) = [] := by
    rcases h2 with h2 | h2
    · exact Or.inl h2
    · exact Or.inr (List.drop_eq_nil_of_le (by rw [list_len]; exact h2))
  rw [drop_cons s k hk, unq_plain h1 h2'] at a b
  exact ⟨by rw [List.append_assoc]; exact a, b, by rw [List.length_append]; simp; omega⟩
theorem uq_esc {s : ByteArray} {k : Nat} {l : List UInt8} (h : UQ s k l) (hk : k < s.size) (hk1 : k + 1 < s.size) (h2 : s[k] = 92) : UQ s (k + 1 + 1) (l ++ [s[k + 1]]) := by
  obtain ⟨a, b, c⟩ := h
  rw [drop_cons s k hk, drop_cons s (k + 1) hk1, h2, unq_esc] at a b
  exact ⟨by rw [List.append_assoc]; exact a, b, by rw [List.length_append]; simp; omega⟩
theorem uq_end {s : ByteArray} {k : Nat} {l : List UInt8} (h : UQ s k l) (hk : s.size ≤ k) : l = unqText s.data.toList ∧ unqOk s.data.toList = false := by
  obtain ⟨a, b, c⟩ := h
  rw [List.drop_eq_nil_of_le (by rw [list_len]; exact hk), unq_nil] at a b
  refine ⟨by simpa using a, ?_⟩
  unfold unqOk
  rw [← b]; simp
theorem head_at {s : ByteArray} (h : 0 < s.size) : s.data.toList.head? = some s[0] := by
  have := drop_cons s 0 h
  rw [List.drop_zero] at this
  rw [this]; rfl
theorem uq_quote {s : ByteArray} {k : Nat} {l : List UInt8} (h : UQ s k l) (hk : k < s.size) (h1 : s[k] = 34) (h0 : 0 < s.size) : l = unqText s.data.toList ∧ unqOk s.data.toList = (s[0] == 34 && ((k : Int) == (s.size : Int) - 1)) := by
  obtain ⟨a, b, c⟩ := h
  rw [drop_cons s k hk, h1, unq_34] at a b
  refine ⟨by simpa using a, ?_⟩
  unfold unqOk
  rw [← b, head_at h0, Bool.eq_iff_iff, Bool.and_eq_true, Bool.and_eq_true]
  refine and_congr (by simp) ?_
  simp only [beq_iff_eq, Option.some.injEq, List.drop_eq_nil_iff, list_len]
  omega

/-- How UnquoteText ends. -/
def Unq (l : List UInt8) (w : World) (e : Ending) (w' : World) : Prop := e = .returned (.tuple #[.string ⟨(unqText l).toArray⟩, .bool (unqOk l)]) ∧ Below w.heap.size w w'
theorem unq_ret {l m : List UInt8} {b : Bool} {w : World} {e : Ending} {w' : World} (h : m = unqText l ∧ unqOk l = b) (hb : Below w.heap.size w w') (he : e = .returned (.tuple #[.string ⟨m.toArray⟩, .bool b])) : Unq l w e w' := by
  obtain ⟨rfl, rfl⟩ := h; exact ⟨he, hb⟩
theorem below_drewN {B : Nat} {a w : World} (h : Below B a w) (n : Nat) : Below B a (w.drewN n) := ⟨h.os, h.tape, h.output, h.size, h.block⟩

end Go.Proofs.YtjeihicjfgimdaaGreatDoor.Tx

/-
  CONTRACT of the program's UnquoteText: at every text it returns what a quoted string means and whether the text is just one; nothing that was there before is changed.
-/
namespace Go.Proofs.YtjeihicjfgimdaaGreatDoor.Tx
open Go Go.RowKit Bys
set_option linter.unusedVariables false
set_option maxRecDepth 1000000

set_option maxRecDepth 1000000 in
set_option maxHeartbeats 2000000 in
theorem impl_unquote (s : ByteArray) (w : World) (hs : s.size ≤ 1048576) :
    Calls Tryz.prog 188 #[.string s] w (Unq s.data.toList w) := by
  obtain ⟨i0, hi, hz0, hz1, hz2⟩ := info_parts info_byte
  have HO := Lib.hid (own_lit_nil w)
  go_enter Tryz.func188, Tryz.ntmps188
  go_wp2
  go_loopw [4, 5] (fun v i wr => ∃ (k : Nat) (l : List UInt8), 1 ≤ k ∧ k ≤ s.size + 1 ∧ i = .int .i64 k ∧ Own wr w.heap.size v l ∧ UQ s k l ∧ Below w.heap.size w wr) (fun _ i _ => s.size + 1 - (intOf i).toNat)
  case atStart => exact ⟨1, [], by omega, by omega, rfl, HO.out, uq_start s, (Below.refl _ _).alloc (Nat.le_refl _) _⟩
  case round =>
    clear HO
    obtain ⟨k, l, hk1, hk, rfl, hown, hq, hb⟩ := hrel
    have HL := Lib.hid hq.2.2
    have HQ := Lib.hid hq
    clear hq
    by_cases hlt : k < s.size
    · by_cases hc : s[k] = 34
      · have hz : 0 < s.size := by omega
        have HE := Lib.hid (uq_quote HQ.out hlt hc hz)
        have h34 : ((s[k].toNat : Int) == 34) = true := by rw [e34]; simp [hc]
        have hcv : ∀ n, (convert 136 9 u4).run Tryz.prog (wr.drewN n) = .ok (.string ⟨l.toArray⟩) (wr.drewN n) := fun n => own_str (w := wr.drewN n) (B := w.heap.size) hown
        have HB := Lib.hid hb
        clear hc hown hb
        by_cases h0 : s[0] = 34
        · have g0 : ((s[0].toNat : Int) == 34) = true := by rw [e34]; simp [h0]
          rcases hg1 : ((k : Int) == (s.size : Int) - 1) with _ | _
          all_goals
            rw [hg1, h0] at HE
            clear h0
            go_wp2
            go_quiet (fail)
            go_wp2
            go_ret2
            exact unq_ret HE.out (below_drewN HB.out _) rfl
        · have g0 : ((s[0].toNat : Int) == 34) = false := by rw [e34]; simpa using h0
          have g1 : (s[0] == 34) = false := by simpa using h0
          rw [g1, Bool.false_and] at HE
          clear h0 g1
          go_wp2
          go_quiet (fail)
          go_wp2
          go_ret2
          exact unq_ret HE.out (below_drewN HB.out _) rfl
      · have h34 : ((s[k].toNat : Int) == 34) = false := by rw [e34]; simpa using hc
        by_cases he : s[k] = 92
        · have h92 : ((s[k].toNat : Int) == 92) = true := by rw [e92]; simp [he]
          by_cases hlt1 : k + 1 < s.size
          · have HE := Lib.hid (uq_esc HQ.out hlt hlt1 he)
            have hlt2 : ((k : Int) + 1 < (s.size : Int)) := by omega
            clear hc he
            go_wp2_with (at_builtin; refine wpList_append_own _ rfl (.tmp 42) (.tmp 46) 136 rfl w.heap.size 5 i0 (.int .u8 0) 1 1 Tryz.underlying136 hi hz0 hz1 hz2 rfl (by decide) _ _ _ rfl (hown.alloc _) ⟨wr.heap.size, 0, none⟩ 1 1 [.int .u8 (s[k + 1].toNat : Int)] rfl rfl (news_one _ _ _) (bvl_one _) (by have := HL.out; unfold maxLen; omega) (by have := HL.out; omega) (by have := hb.size; simp; omega) ?_; intro v1 w1 hown1 hg1 _)
            have R := Lib.hid (push_own (c := s[k + 1]) hown hb (Nat.le_refl _) hown1 hg1)
            clear hown hown1 hg1 hb
            go_wp2
            go_roundw
            case rel => exact ⟨k + 1 + 1, _, by omega, by omega, by go_num, R.out.1, HE.out, R.out.2⟩
            case measure => simp [intOf]; omega
          · have HE := Lib.hid (uq_plain HQ.out hlt hc (Or.inr (by omega)))
            have hlt2 : ¬ ((k : Int) + 1 < (s.size : Int)) := by omega
            clear hc he
            go_wp2_with (at_builtin; refine wpList_append_own _ rfl (.tmp 42) (.tmp 46) 136 rfl w.heap.size 5 i0 (.int .u8 0) 1 1 Tryz.underlying136 hi hz0 hz1 hz2 rfl (by decide) _ _ _ rfl (hown.alloc _) ⟨wr.heap.size, 0, none⟩ 1 1 [.int .u8 (s[k].toNat : Int)] rfl rfl (news_one _ _ _) (bvl_one _) (by have := HL.out; unfold maxLen; omega) (by have := HL.out; omega) (by have := hb.size; simp; omega) ?_; intro v1 w1 hown1 hg1 _)
            have R := Lib.hid (push_own (c := s[k]) hown hb (Nat.le_refl _) hown1 hg1)
            clear hown hown1 hg1 hb
            go_wp2
            go_roundw
            case rel => exact ⟨k + 1, _, by omega, by omega, by go_num, R.out.1, HE.out, R.out.2⟩
            case measure => simp [intOf]; omega
        · have h92 : ((s[k].toNat : Int) == 92) = false := by rw [e92]; simpa using he
          have HE := Lib.hid (uq_plain HQ.out hlt hc (Or.inl he))
          clear hc he
          go_wp2_with (at_builtin; refine wpList_append_own _ rfl (.tmp 42) (.tmp 46) 136 rfl w.heap.size 5 i0 (.int .u8 0) 1 1 Tryz.underlying136 hi hz0 hz1 hz2 rfl (by decide) _ _ _ rfl (hown.alloc _) ⟨wr.heap.size, 0, none⟩ 1 1 [.int .u8 (s[k].toNat : Int)] rfl rfl (news_one _ _ _) (bvl_one _) (by have := HL.out; unfold maxLen; omega) (by have := HL.out; omega) (by have := hb.size; simp; omega) ?_; intro v1 w1 hown1 hg1 _)
          have R := Lib.hid (push_own (c := s[k]) hown hb (Nat.le_refl _) hown1 hg1)
          clear hown hown1 hg1 hb
          go_wp2
          go_roundw
          case rel => exact ⟨k + 1, _, by omega, by omega, by go_num, R.out.1, HE.out, R.out.2⟩
          case measure => simp [intOf]; omega
    · have HE := Lib.hid (uq_end HQ.out (by omega))
      have hcv := own_str hown
      have HB := Lib.hid hb
      clear hown hb
      go_wp2
      go_ret2
      exact unq_ret HE.out HB.out rfl
end Go.Proofs.YtjeihicjfgimdaaGreatDoor.Tx

/-
  PLAIN FACTS on a text whose first bytes are in lower case.
-/
namespace Go.Proofs.YtjeihicjfgimdaaGreatDoor.Tx
open Go Go.RowKit Bys
set_option linter.unusedVariables false
set_option maxRecDepth 1000000

/-- The first k bytes are in lower case. -/
def lowk (l : List UInt8) (k : Nat) : List UInt8 := (l.take k).map lowc ++ l.drop k
theorem lowk_zero (l : List UInt8) : lowk l 0 = l := by unfold lowk; simp
theorem lowk_len (l : List UInt8) (k : Nat) : (lowk l k).length = l.length := by unfold lowk; simp; omega
theorem getD_at {l : List UInt8} {k : Nat} (h : k < l.length) : l.getD k 0 = l[k] := by simp [List.getD, h]
theorem lowk_at {l : List UInt8} {k : Nat} (h : k < l.length) : (lowk l k).getD k 0 = l.getD k 0 := by
  unfold lowk
  rw [List.getD, List.getElem?_append_right (by simp; omega)]
  simp [Nat.min_eq_left (Nat.le_of_lt h), h]
theorem lowk_more {l : List UInt8} {k : Nat} (h : k < l.length) : (lowk l k).set k (lowc (l.getD k 0)) = lowk l (k + 1) := by
  rw [getD_at h]
  unfold lowk
  rw [List.set_append_right _ _ (by simp; omega), List.take_succ_eq_append_getElem h, List.map_append, List.append_assoc, List.length_map, List.length_take, Nat.min_eq_left (Nat.le_of_lt h), Nat.sub_self, List.drop_eq_getElem_cons h, List.set_cons_zero]
  rfl
theorem lowk_same {l : List UInt8} {k : Nat} (h : k < l.length) (hc : upc (l.getD k 0) = false) : lowk l (k + 1) = lowk l k := by
  rw [getD_at h] at hc
  unfold lowk
  rw [List.take_succ_eq_append_getElem h, List.map_append, List.append_assoc, List.drop_eq_getElem_cons h]
  simp [lowc_no hc]
theorem lowk_all {l : List UInt8} {k : Nat} (h : k = l.length) : lowk l k = lower l := by unfold lowk lower; subst h; simp

end Go.Proofs.YtjeihicjfgimdaaGreatDoor.Tx

/-
  CONTRACT of the program's LowerText: at every text it returns it with the letters A to Z as a to z; nothing that was there before is changed.
-/
namespace Go.Proofs.YtjeihicjfgimdaaGreatDoor.Tx
open Go Go.RowKit Bys
set_option linter.unusedVariables false
set_option maxRecDepth 1000000

set_option maxHeartbeats 1000000 in
theorem impl_lower (s : ByteArray) (w : World) (hs : s.size ≤ 9223372036854775806) :
    Calls Tryz.prog 116 #[.string s] w fun e w' => e = .returned (.string ⟨(lower s.data.toList).toArray⟩) ∧ Below w.heap.size w w' := by
  obtain ⟨cap, w1, hcv, hat, hb⟩ := of_string s w
  have HT := Lib.hid (And.intro hat hb)
  clear hat hb
  go_enter Tryz.func116, Tryz.ntmps116
  go_wp2
  clear hcv
  go_loopw [4, 5, 10] (fun x y i wr => ∃ k : Nat, k ≤ s.size ∧ i = .int .i64 k ∧ BAt wr w.heap.size (lowk s.data.toList k) ∧ Below w.heap.size w wr) (fun _ _ i _ => s.size - (intOf i).toNat)
  case atStart => exact ⟨0, Nat.zero_le _, rfl, by rw [lowk_zero]; exact HT.out.1, HT.out.2⟩
  case round =>
    clear HT
    obtain ⟨k, hk, rfl, hat, hb⟩ := hrel
    have hL := list_len s
    by_cases hlt : k < s.size
    · have hlt' : k < s.data.toList.length := by omega
      have hcell := (hat.2 k (by rw [lowk_len]; exact hlt')).1
      have hfz := (hat.2 k (by rw [lowk_len]; exact hlt')).2
      rw [lowk_at hlt'] at hcell
      have HM := Lib.hid (lowk_more hlt')
      have HN := Lib.hid (lowk_same hlt')
      have HS := Lib.hid (bat_set (lowc (s.data.toList.getD k 0)) hat (by rw [lowk_len]; exact hlt'))
      have hub : ((s.data.toList.getD k 0).toNat : Int) ≤ 255 := by have := (s.data.toList.getD k 0).toNat_lt; omega
      have hub0 : 0 ≤ ((s.data.toList.getD k 0).toNat : Int) := by omega
      have HB := Lib.hid hb
      have HA := Lib.hid hat
      have HK := Lib.hid (show (k + 1 : Nat) ≤ s.size by omega)
      clear hlt' hL hb hat
      generalize s.data.toList.getD k 0 = c at *
      unfold bvl at hcell
      rcases hu : upc c with _ | _
      · have h1 : (c.toNat : Int) < 65 ∨ 90 < (c.toNat : Int) := by unfold upc at hu; simp at hu; omega
        have H1 := Lib.hid h1
        have HU := Lib.hid hu
        clear h1 hu
        go_wp2_with (go_at_call 158; (with_reducible refine (up_no _ _ H1.out).mono ?_); rintro e w' ⟨rfl, rfl⟩)
        go_roundw
        case rel => exact ⟨k + 1, HK.out, by go_num, by rw [HN.out HU.out]; exact HA.out, HB.out⟩
        case measure => simp [intOf]; omega
      · have h1 : 65 ≤ (c.toNat : Int) := by unfold upc at hu; simp at hu; omega
        have h2 : (c.toNat : Int) ≤ 90 := by unfold upc at hu; simp at hu; omega
        have hs : (c.toNat : Int) - 65 + 97 = ((lowc c).toNat : Int) := by rw [lowc_up hu]; omega
        clear hu
        go_wp2_with (go_at_call 158; (with_reducible refine (up_yes _ _ h1 h2).mono ?_); rintro e w' ⟨rfl, rfl⟩)
        go_roundw
        case rel => exact ⟨k + 1, HK.out, by go_num, by rw [← HM.out]; exact HS.out, below_set _ HB.out (Nat.le_refl _)⟩
        case measure => simp [intOf]; omega
    · have HE := Lib.hid (lowk_all (l := s.data.toList) (k := k) (by omega))
      have hbk := back wr w.heap.size cap (lowk s.data.toList k) hat
      rw [lowk_len, hL] at hbk
      have HB := Lib.hid hb
      clear hat hL hb
      go_wp2
      go_ret
      exact ⟨ret_str HE.out, HB.out⟩
end Go.Proofs.YtjeihicjfgimdaaGreatDoor.Tx
