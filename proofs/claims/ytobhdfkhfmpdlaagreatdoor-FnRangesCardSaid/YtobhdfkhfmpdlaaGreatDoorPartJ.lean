/-
  CONTRACTS AND PLAIN FACTS, several texts in one; each says in its own words what it proves.
-/
import Derived.Test.YtobhdfkhfmpdlaaGreatDoorPartI
import Derived.Test.YtobhdfkhfmpdlaaGreatDoorPartE
import Derived.Test.YtobhdfkhfmpdlaaGreatDoorPartA
import Derived.Outline
import Derived.Test.YtobhdfkhfmpdlaaGreatDoorPartG
import Derived.Lib.SmallJoins
import Derived.Test.YtobhdfkhfmpdlaaGreatDoorPartF
import Derived.Deep.QuietTactic
import Derived.BigQuiet
import Derived.LoopTactic
import Derived.Test.YtobhdfkhfmpdlaaGreatDoorPartH
set_option linter.unusedSimpArgs false
set_option linter.unusedVariables false

/-
  CONTRACT of the model's ParseInt: at every text it answers the number whose decimal numeral the text is, if it lies between 0 and the greatest integer that is read; nothing that was there before is changed.
-/
namespace Go.Proofs.YtobhdfkhfmpdlaaGreatDoor.Par
open Go Go.RowKit
set_option linter.unusedVariables false
set_option maxRecDepth 1000000

theorem list_eq {l : List UInt8} {s : ByteArray} (h : (!l == s.toList) = false) : l = s.data.toList := by
  rw [← Go.ByteArray.toList_eq]
  simpa using h
theorem list_ne {l : List UInt8} {s : ByteArray} (h : (!l == s.toList) = true) : l ≠ s.data.toList := by
  rw [← Go.ByteArray.toList_eq]
  simpa using h
/-- How ParseInt ends. -/
def Parsed (l : List UInt8) (w : World) (e : Ending) (w' : World) : Prop := ∃ v b, PS l v b ∧ e = .returned (.tuple #[.int .i64 v, .bool b]) ∧ Below w.heap.size w w'

set_option maxHeartbeats 1000000 in
theorem spec_parse (s : ByteArray) (w : World) (hs : s.size ≤ 9223372036854775806) :
    Calls Tryz.prog 42 #[.string s] w (Parsed s.data.toList w) := by
  by_cases hlen : 1 ≤ (s.size : Int) ∧ (s.size : Int) ≤ 13
  · obtain ⟨hl1, hl2⟩ := hlen
    go_enter Tryz.func42, Tryz.ntmps42
    go_wp2_with (go_at_call 54; refine (NumDiv.in_yes _ _ _ _ hl1 hl2).mono ?_; rintro e w' ⟨rfl, rfl⟩)
    go_loop [4, 5] (fun n i => ∃ k m : Nat, k ≤ s.size ∧ i = .int .i64 k ∧ n = .int .i64 m ∧ Good s k m) (fun _ i => s.size - (intOf i).toNat)
    case atStart => exact ⟨0, 0, Nat.zero_le _, rfl, rfl, good_zero s⟩
    case round =>
      obtain ⟨k, m, hk, rfl, rfl, hg⟩ := hrel
      have hmb := good_bound hg (by omega)
      by_cases hlt : k < s.size
      · by_cases hc : 48 ≤ (s[k].toNat : Int) ∧ (s[k].toNat : Int) ≤ 57
        · obtain ⟨hc1, hc2⟩ := hc
          have G := Lib.hid (good_step hlt hg hc1 hc2)
          clear hg
          go_wp2_with (go_at_call 54; refine (NumDiv.in_yes _ _ _ _ hc1 hc2).mono ?_; rintro e w' ⟨rfl, rfl⟩)
          go_round
          case rel => exact ⟨k + 1, _, by omega, by go_num, by go_num, G.out⟩
          case measure => simp [intOf]; omega
        · have hc' : (s[k].toNat : Int) < 48 ∨ 57 < (s[k].toNat : Int) := by omega
          have G := Lib.hid (ps_bad hlt hc')
          have HC := Lib.hid hc'
          clear hg hc hc'
          have hub : (s[k].toNat : Int) ≤ 255 := by have := s[k].toNat_lt; omega
          have hub0 : 0 ≤ (s[k].toNat : Int) := by omega
          go_wp2_with (go_at_call 54; (with_reducible refine (NumDiv.in_no _ _ _ _ HC.out).mono ?_); rintro e w' ⟨rfl, rfl⟩)
          go_ret2
          exact ⟨_, _, G.out, rfl, Below.refl _ _⟩
      · have hks : k = s.size := by omega
        by_cases hm : 1000000000000 < (m : Int)
        · have G := Lib.hid (ps_great (hks ▸ hg) hm)
          clear hg hks
          go_wp2
          go_ret2
          exact ⟨_, _, G.out, rfl, Below.refl _ _⟩
        · have HK := Lib.hid hks
          clear hks
          go_wp2_with (go_at_call 38; refine (Fmt.spec_fmt m (by omega) (by omega) _).mono ?_; rintro e w1 ⟨rfl, hb1⟩)
          · have hq : (!Lib.itoa (m : Int) == s.toList) = true := by assumption
            go_ret2
            exact ⟨_, _, ps_other (HK.out ▸ hg) (list_ne hq), rfl, hb1⟩
          · have hq : (!Lib.itoa (m : Int) == s.toList) = false := by assumption
            go_ret2
            exact ⟨_, _, ps_is (by omega) (list_eq hq), rfl, hb1⟩
  · have hl : (s.size : Int) < 1 ∨ 13 < (s.size : Int) := by omega
    have H := Lib.hid hl
    have G := Lib.hid (ps_short hl)
    clear hl hlen
    go_enter Tryz.func42, Tryz.ntmps42
    go_wp2_with (go_at_call 54; refine (NumDiv.in_no _ _ _ _ H.out).mono ?_; rintro e w' ⟨rfl, rfl⟩)
    go_ret2
    exact ⟨_, _, G.out, rfl, Below.refl _ _⟩
end Go.Proofs.YtobhdfkhfmpdlaaGreatDoor.Par

/-
  CONTRACT of the program's ParseInt: at every text of at most 2 to the 48 bytes, where the library's table of powers of ten and its two errors read as they are written, it answers the number whose decimal numeral the text is, if it lies between 0 and the greatest integer that is read; nothing that was there before is changed.
-/
namespace Go.Proofs.YtobhdfkhfmpdlaaGreatDoor.Par
open Go Go.RowKit
set_option linter.unusedVariables false
set_option maxRecDepth 1000000

/-- The library's two errors are there. -/
def Errs (w : World) : Prop := (∃ tp p, w.var? Tryz.prog "strconv.ErrSyntax" = some #[.iface tp p]) ∧ (∃ tp p, w.var? Tryz.prog "strconv.ErrRange" = some #[.iface tp p])
theorem errs_below {W w1 : World} (h : Errs W) (hb : Below W.heap.size W w1) : Errs w1 := by
  obtain ⟨⟨tp, p, h1⟩, ⟨tq, q, h2⟩⟩ := h
  exact ⟨⟨tp, p, Base.var_below h1 hb⟩, ⟨tq, q, Base.var_below h2 hb⟩⟩


theorem atoi_ok (s : ByteArray) (hs : s.size ≤ 281474976710656) (v : Int) (h : Lib.atoiAll s.data.toList = .ok v) (w : World) :
    Calls Tryz.prog 48 #[.string s] w fun e w' => e = .returned (.tuple #[.int .i64 v, .nilIface]) ∧ Below w.heap.size w w' := by
  refine (Tryz.strconv_Atoi_ok s (by omega) v h w).mono ?_
  rintro e w' ⟨rfl, rfl | ⟨t, rfl⟩⟩
  · exact ⟨rfl, Below.refl _ _⟩
  · exact ⟨rfl, Joins.below_bytesWorld _ _ _ _ (Nat.le_refl _)⟩
/-- Any other end of Atoi: an error that is there. -/
theorem atoi_err (s : ByteArray) (hs : s.size ≤ 281474976710656) (h : ∀ v, Lib.atoiAll s.data.toList ≠ .ok v) (w : World) (he : Errs w) :
    Calls Tryz.prog 48 #[.string s] w fun e w' => (∃ z p, e = .returned (.tuple #[.int .i64 z, .iface 112 (.pointer (some p))])) ∧ Below w.heap.size w w' := by
  obtain ⟨⟨tp, p, h1⟩, ⟨tq, q, h2⟩⟩ := he
  rcases hk : Lib.atoiAll s.data.toList with v | _ | _
  · exact absurd hk (h v)
  · refine (Tryz.strconv_Atoi_syntax_var s hs hk tp p w h1).mono ?_
    rintro e w' ⟨N, rfl, _, _, hb⟩
    exact ⟨⟨_, _, rfl⟩, hb⟩
  · refine (Tryz.strconv_Atoi_range_var s hs hk tq q w h2).mono ?_
    rintro e w' ⟨N, rfl, _, _, hb⟩
    exact ⟨⟨_, _, rfl⟩, hb⟩

theorem ps_noatoi {s : ByteArray} (h : ∀ v, Lib.atoiAll s.data.toList ≠ .ok v) : PS s.data.toList 0 false := by
  refine Or.inr ⟨rfl, rfl, fun u h0 h1 e => ?_⟩
  exact h u (e ▸ atoi_itoa h0 h1)
theorem ps_out {s : ByteArray} {v : Int} (h : Lib.atoiAll s.data.toList = .ok v) (hv : v < 0 ∨ 1000000000000 < v) : PS s.data.toList 0 false := by
  refine Or.inr ⟨rfl, rfl, fun u h0 h1 e => ?_⟩
  have := atoi_itoa h0 h1
  rw [e, h] at this
  injection this with this
  omega
theorem ps_not {s : ByteArray} {v : Int} (h : Lib.atoiAll s.data.toList = .ok v) (hv : Lib.itoa v ≠ s.data.toList) : PS s.data.toList 0 false := by
  refine Or.inr ⟨rfl, rfl, fun u h0 h1 e => ?_⟩
  have := atoi_itoa h0 h1
  rw [e, h] at this
  injection this with this
  exact hv (this ▸ e)

set_option maxHeartbeats 1000000 in
theorem impl_parse (s : ByteArray) (w : World) (hs : s.size ≤ 281474976710656) (ht : Fmt.Tens w) (he : Errs w) :
    Calls Tryz.prog 31 #[.string s] w (Parsed s.data.toList w) := by
  by_cases hk : ∃ v, Lib.atoiAll s.data.toList = .ok v
  · obtain ⟨v, hv⟩ := hk
    have hbd := Lib.atoiAll_bounds hv
    obtain ⟨b0, b1⟩ := hbd
    have HV := Lib.hid hv
    clear hv
    by_cases hn : v < 0
    · have G := Lib.hid (ps_out HV.out (Or.inl hn))
      go_enter Tryz.func31, Tryz.ntmps31
      go_wp2_with (go_at_call 48; refine (atoi_ok s hs v HV.out _).mono ?_; rintro e w1 ⟨rfl, hb1⟩)
      go_ret2
      exact ⟨_, _, G.out, rfl, hb1⟩
    · by_cases hg : 1000000000000 < v
      · have G := Lib.hid (ps_out HV.out (Or.inr hg))
        go_enter Tryz.func31, Tryz.ntmps31
        go_wp2_with (go_at_call 48; refine (atoi_ok s hs v HV.out _).mono ?_; rintro e w1 ⟨rfl, hb1⟩)
        go_ret2
        exact ⟨_, _, G.out, rfl, hb1⟩
      · go_enter Tryz.func31, Tryz.ntmps31
        go_wp2_with (first | (go_at_call 48; refine (atoi_ok s hs v HV.out _).mono ?_; rintro e w1 ⟨rfl, hb1⟩) | (go_at_call 33; refine (Fmt.impl_fmt v b0 b1 _ (Fmt.tens_below ht hb1)).mono ?_; rintro e w2 ⟨rfl, hb2⟩))
        · have hq : (!Lib.itoa v == s.toList) = true := by assumption
          go_ret2
          exact ⟨_, _, ps_not HV.out (list_ne hq), rfl, Base.then_below hb1 hb2⟩
        · have hq : (!Lib.itoa v == s.toList) = false := by assumption
          go_ret2
          exact ⟨_, _, Or.inl ⟨rfl, by omega, by omega, list_eq hq⟩, rfl, Base.then_below hb1 hb2⟩
  · have hno : ∀ v, Lib.atoiAll s.data.toList ≠ .ok v := fun v h => hk ⟨v, h⟩
    have HN := Lib.hid hno
    have G := Lib.hid (ps_noatoi hno)
    clear hk hno
    go_enter Tryz.func31, Tryz.ntmps31
    go_wp2_with (go_at_call 48; refine (atoi_err s hs HN.out _ he).mono ?_; rintro e w1 ⟨⟨z, p, rfl⟩, hb1⟩)
    go_ret2
    exact ⟨_, _, G.out, rfl, hb1⟩
end Go.Proofs.YtobhdfkhfmpdlaaGreatDoor.Par

/-
  CONTRACT of strings.Cut at a separator of one byte: what stands before the first such byte, what stands behind it, and whether there is one; nothing that was there before is changed.
-/
namespace Go.Proofs.YtobhdfkhfmpdlaaGreatDoor.Tx
open Go Go.RowKit
set_option linter.unusedVariables false
set_option maxRecDepth 1000000

theorem indexByte_idx (c : UInt8) (l : List UInt8) : Lib.indexByte l c = if idx c l < l.length then (idx c l : Int) else -1 := by
  induction l with
  | nil => simp [Lib.indexByte, idx]
  | cons a r ih =>
    unfold Lib.indexByte idx
    by_cases h : a == c
    · rw [if_pos h, if_pos h, if_pos (by simp)]; rfl
    · rw [if_neg h, if_neg h, ih]
      by_cases hl : idx c r < r.length
      · have hn : ((idx c r : Int) == -1) = false := by rw [beq_eq_false_iff_ne]; omega
        rw [if_pos hl, hn, if_neg (by simp), if_pos (by simp; omega)]; omega
      · rw [if_neg hl, if_pos (by decide), if_neg (by simp; omega)]
/-- How a cut ends. -/
def CutEnd (c : UInt8) (l : List UInt8) (w : World) (e : Ending) (w' : World) : Prop :=
  e = .returned (.tuple #[.string ⟨(cutAt c l).1.toArray⟩, .string ⟨(cutAt c l).2.1.toArray⟩, .bool (cutAt c l).2.2]) ∧ Below w.heap.size w w'
theorem below_drewN' {B : Nat} {a w : World} (h : Below B a w) (n : Nat) : Below B a (w.drewN n) := ⟨h.os, h.tape, h.output, h.size, h.block⟩
theorem ext_eq (s : ByteArray) (a b : Nat) : s.extract a b = ⟨((s.data.toList.drop a).take (b - a)).toArray⟩ := by
  apply ByteArray.ext
  rw [ByteArray.data_extract]
  apply Array.ext'
  simp
theorem cut_hit {s : ByteArray} {c : UInt8} {w w' : World} {i : Nat} (hi : i = idx c s.data.toList) (h : i < s.size) (hb : Below w.heap.size w w') :
    CutEnd c s.data.toList w (.returned (.tuple #[.string (s.extract 0 i), .string (s.extract (i + 1) s.size), .bool true])) w' := by
  have hl : s.data.toList.length = s.size := by rw [Array.length_toList]; rfl
  have e : cutAt c s.data.toList = (s.data.toList.take i, s.data.toList.drop (i + 1), true) := by
    unfold cutAt; rw [← hi, hl, if_pos h]
  unfold CutEnd
  rw [e, ext_eq, ext_eq]
  refine ⟨?_, hb⟩
  have h2 : (s.data.toList.drop (i + 1)).take (s.size - (i + 1)) = s.data.toList.drop (i + 1) := List.take_of_length_le (by rw [List.length_drop, hl]; omega)
  rw [h2, List.drop_zero, Nat.sub_zero]
theorem cut_miss {s : ByteArray} {c : UInt8} {w w' : World} (h : ¬ idx c s.data.toList < s.size) (hb : Below w.heap.size w w') :
    CutEnd c s.data.toList w (.returned (.tuple #[.string s, .string ⟨#[]⟩, .bool false])) w' := by
  have hl : s.data.toList.length = s.size := by rw [Array.length_toList]; rfl
  have e : cutAt c s.data.toList = (s.data.toList, [], false) := by
    unfold cutAt; rw [hl, if_neg h]
  unfold CutEnd
  rw [e]
  exact ⟨by simp, hb⟩

set_option maxHeartbeats 1000000 in
theorem lite_cut (s : ByteArray) (c : UInt8) (w : World) (hs : s.size ≤ 9223372036854775806) :
    Calls Tryz.prog 47 #[.string s, .string ⟨#[c]⟩] w (CutEnd c s.data.toList w) := by
  have hl : s.data.toList.length = s.size := by rw [Array.length_toList]; rfl
  have c1 := Tryz.stringslite_Index_one s c w
  rw [indexByte_idx, hl] at c1
  by_cases h : idx c s.data.toList < s.size
  · rw [if_pos h] at c1
    obtain ⟨i, hi⟩ : ∃ i, i = idx c s.data.toList := ⟨_, rfl⟩
    rw [← hi] at c1 h
    have HI := Lib.hid hi
    clear hi hl
    go_enter Tryz.func47, Tryz.ntmps47
    go_wp2_with (go_at_call 58; refine c1.mono ?_; rintro e w' ⟨rfl, rfl⟩)
    go_quiet (fail)
    go_wp2
    go_ret3
    exact cut_hit HI.out h (below_drewN' (Below.refl _ _) _)
  · rw [if_neg h] at c1
    have H := Lib.hid h
    clear h hl
    go_enter Tryz.func47, Tryz.ntmps47
    go_wp2_with (go_at_call 58; refine c1.mono ?_; rintro e w' ⟨rfl, rfl⟩)
    go_ret3
    exact cut_miss H.out (Below.refl _ _)

theorem cut_any (s : ByteArray) (c : UInt8) (w : World) (hs : s.size ≤ 9223372036854775806) :
    Calls Tryz.prog 30 #[.string s, .string ⟨#[c]⟩] w (CutEnd c s.data.toList w) := by
  have c1 := lite_cut s c w hs
  go_enter Tryz.func30, Tryz.ntmps30
  go_wp2_with (go_at_call 47; refine c1.mono ?_; rintro e w' ⟨rfl, hb⟩)
  go_ret3
  exact ⟨rfl, hb⟩
end Go.Proofs.YtobhdfkhfmpdlaaGreatDoor.Tx

/-
  CONTRACTS of both sides' TrimText: at every text each returns it without the blanks at its beginning and its end; nothing that was there before is changed.
-/
namespace Go.Proofs.YtobhdfkhfmpdlaaGreatDoor.Tx
open Go Go.RowKit
set_option linter.unusedVariables false
set_option maxRecDepth 1000000

theorem impl_trim (s : ByteArray) (w : World) (hs : s.size ≤ 9223372036854775807) :
    Calls Tryz.prog 51 #[.string s] w fun e w' => e = .returned (.string ⟨(trim s.data.toList).toArray⟩) ∧ Below w.heap.size w w' := by
  have hcon := Tryz.strings_Trim_laid s ⟨#[32, 9]⟩ w hs (by decide) (ascii_of_all (by decide))
  change Calls Tryz.prog 62 _ _ (fun e w' => e = .returned (.string ⟨(Lib.trimS s.data.toList [32, 9]).toArray⟩) ∧ Below w.heap.size w w') at hcon
  rw [trim_set] at hcon
  generalize (⟨(trim s.data.toList).toArray⟩ : ByteArray) = r at hcon ⊢
  go_enter Tryz.func51, Tryz.ntmps51
  go_wp2_with (go_at_call 62; refine hcon.mono ?_; rintro e w' ⟨rfl, hB⟩)
  go_ret
  exact ⟨rfl, hB⟩

def slen : Value → Nat
  | .string s => s.size
  | _ => 0
theorem ret_str {a b : List UInt8} (h : a = b) : Ending.returned (.string ⟨a.toArray⟩) = .returned (.string ⟨b.toArray⟩) := by rw [h]
theorem blank_yes (c : UInt8) (h : blk c = true) (w : World) : Calls Tryz.prog 53 #[.int .u8 (c.toNat : Int)] w fun e w' => e = .returned (.bool true) ∧ w = w' := by
  have : c = 32 ∨ c = 9 := by unfold blk at h; simpa using h
  rcases this with rfl | rfl
  all_goals
    go_enter Tryz.func53, Tryz.ntmps53
    go_wp2
    go_ret
    exact ⟨rfl, rfl⟩
theorem blank_no (c : UInt8) (h : blk c = false) (w : World) : Calls Tryz.prog 53 #[.int .u8 (c.toNat : Int)] w fun e w' => e = .returned (.bool false) ∧ w = w' := by
  have h1 : ((c.toNat : Int) == 32) = false := by
    rw [beq_eq_false_iff_ne]; intro e
    have : c = 32 := UInt8.toNat_inj.1 (by simp; omega)
    subst this; revert h; decide
  have h2 : ((c.toNat : Int) == 9) = false := by
    rw [beq_eq_false_iff_ne]; intro e
    have : c = 9 := UInt8.toNat_inj.1 (by simp; omega)
    subst this; revert h; decide
  clear h
  go_enter Tryz.func53, Tryz.ntmps53
  go_wp2
  go_ret
  exact ⟨rfl, rfl⟩

theorem empty_eq {x : ByteArray} (h : x.size = 0) : x.data.toList = [] := List.eq_nil_of_length_eq_zero (by rw [Array.length_toList]; exact h)
theorem ret_trim {x : ByteArray} {a : List UInt8} (h : [] = a) (hx : x.data.toList = []) : Ending.returned (.string x) = .returned (.string ⟨a.toArray⟩) := by
  subst h
  have : x = ⟨#[]⟩ := by
    have : x.data = #[] := by simpa using hx
    cases x; simp_all
  rw [this]
theorem ret_bytes {x : ByteArray} {a : List UInt8} (h : x.data.toList = a) : Ending.returned (.string x) = .returned (.string ⟨a.toArray⟩) := by subst h; simp
theorem cut_front {x : ByteArray} {n : Nat} (h : n ≤ x.size) : (x.extract 0 n).data.toList = x.data.toList.take n := by simp
theorem cut_size {x : ByteArray} {n : Nat} (h : n ≤ x.size) : (x.extract 0 n).size = n := by simp; omega
theorem cut_one (c : UInt8) (r : List UInt8) : Value.string ((⟨(c :: r).toArray⟩ : ByteArray).extract 1 (r.length + 1)) = .string ⟨r.toArray⟩ := by
  congr 1
  have : ((⟨(c :: r).toArray⟩ : ByteArray).extract 1 (r.length + 1)).data = r.toArray := by simp
  exact ByteArray.ext this
theorem last_split {x : ByteArray} {n : Nat} (hn : x.size = n + 1) (h : n < x.size) : x.data.toList = x.data.toList.take n ++ [x[n]] := by
  have e : x.data.toList.take (n + 1) = x.data.toList := List.take_of_length_le (by rw [Array.length_toList]; have : x.data.size = x.size := rfl; omega)
  have s := List.take_succ_eq_append_getElem (l := x.data.toList) (i := n) (by rw [Array.length_toList]; exact h)
  rw [e] at s
  exact s
theorem last_no {x : ByteArray} {n : Nat} (hn : x.size = n + 1) (h : n < x.size) (hb : blk x[n] = false) : trimr x.data.toList = x.data.toList := by
  rw [last_split hn h]; exact trimr_snoc_no hb
theorem last_yes {x : ByteArray} {n : Nat} (hn : x.size = n + 1) (h : n < x.size) (hb : blk x[n] = true) : trimr x.data.toList = trimr (x.data.toList.take n) := by
  conv => lhs; rw [last_split hn h]
  exact trimr_snoc_blk hb

set_option maxHeartbeats 1000000 in
theorem spec_trim (s : ByteArray) (w : World) (hs : s.size ≤ 9223372036854775806) :
    Calls Tryz.prog 41 #[.string s] w fun e w' => e = .returned (.string ⟨(trim s.data.toList).toArray⟩) ∧ w = w' := by
  obtain ⟨l, rfl⟩ : ∃ l : List UInt8, s = ⟨l.toArray⟩ := ⟨s.data.toList, by simp⟩
  show Calls _ _ _ _ (fun e w' => e = .returned (.string ⟨(trim l).toArray⟩) ∧ w = w')
  have hl : l.length ≤ 9223372036854775806 := hs
  clear hs
  go_enter Tryz.func41, Tryz.ntmps41
  go_wp2
  go_loop [0] (fun t => ∃ m : List UInt8, t = .string ⟨m.toArray⟩ ∧ triml m = triml l ∧ m.length ≤ l.length) (fun t => slen t)
  case atStart => exact ⟨l, rfl, rfl, Nat.le_refl _⟩
  case round =>
    obtain ⟨m, rfl, hm, hml⟩ := hrel
    have HM := Lib.hid hm
    clear hm
    cases m with
    | nil =>
      have HT : Hid (trimr [] = trim l) := Lib.hid (by rw [← trimr_triml, ← HM.out]; rfl)
      go_wp2
      go_loop [0] (fun t => ∃ x : ByteArray, t = .string x ∧ trimr x.data.toList = trim l ∧ x.size ≤ l.length) (fun t => slen t)
      case atStart => exact ⟨_, rfl, HT.out, hml⟩
      case round =>
        clear HT HM
        obtain ⟨x, rfl, hm, hml2⟩ := hrel
        have HM := Lib.hid hm
        clear hm
        rcases Nat.eq_zero_or_pos x.size with h0 | h0
        · have HE := Lib.hid (empty_eq h0)
          go_wp2
          go_ret
          exact ⟨ret_trim (by rw [← HM.out, HE.out]; rfl) HE.out, rfl⟩
        · obtain ⟨n, hn⟩ : ∃ n, x.size = n + 1 := ⟨x.size - 1, by omega⟩
          have hxn : n < x.size := by omega
          rcases hb2 : blk x[n] with _ | _
          · have c3 := blank_no x[n] hb2
            have HT := Lib.hid ((last_no hn hxn hb2).symm.trans HM.out)
            go_wp2_with (go_at_call 53; refine (c3 _).mono ?_; rintro e w' ⟨rfl, rfl⟩)
            go_ret
            exact ⟨ret_bytes HT.out, rfl⟩
          · have c3 := blank_yes x[n] hb2
            have HT := Lib.hid ((last_yes hn hxn hb2).symm.trans HM.out)
            go_wp2_with (go_at_call 53; refine (c3 _).mono ?_; rintro e w' ⟨rfl, rfl⟩)
            go_round
            case rel => exact ⟨x.extract 0 n, rfl, by rw [cut_front (by omega)]; exact HT.out, by rw [cut_size (by omega)]; omega⟩
            case measure => simp [slen]; omega
    | cons c r =>
      rcases hb : blk c with _ | _
      · have c1 := blank_no c hb
        have HT : Hid (trimr (c :: r) = trim l) := Lib.hid (by rw [← trimr_triml, ← HM.out, triml_cons_no hb])
        go_wp2_with (go_at_call 53; refine (c1 _).mono ?_; rintro e w' ⟨rfl, rfl⟩)
        go_loop [0] (fun t => ∃ x : ByteArray, t = .string x ∧ trimr x.data.toList = trim l ∧ x.size ≤ l.length) (fun t => slen t)
        case atStart => exact ⟨_, rfl, HT.out, hml⟩
        case round =>
          clear HT HM
          obtain ⟨x, rfl, hm, hml2⟩ := hrel
          have HM := Lib.hid hm
          clear hm
          rcases Nat.eq_zero_or_pos x.size with h0 | h0
          · have HE := Lib.hid (empty_eq h0)
            go_wp2
            go_ret
            exact ⟨ret_trim (by rw [← HM.out, HE.out]; rfl) HE.out, rfl⟩
          · obtain ⟨n, hn⟩ : ∃ n, x.size = n + 1 := ⟨x.size - 1, by omega⟩
            have hxn : n < x.size := by omega
            rcases hb2 : blk x[n] with _ | _
            · have c3 := blank_no x[n] hb2
              have HT := Lib.hid ((last_no hn hxn hb2).symm.trans HM.out)
              go_wp2_with (go_at_call 53; refine (c3 _).mono ?_; rintro e w' ⟨rfl, rfl⟩)
              go_ret
              exact ⟨ret_bytes HT.out, rfl⟩
            · have c3 := blank_yes x[n] hb2
              have HT := Lib.hid ((last_yes hn hxn hb2).symm.trans HM.out)
              go_wp2_with (go_at_call 53; refine (c3 _).mono ?_; rintro e w' ⟨rfl, rfl⟩)
              go_round
              case rel => exact ⟨x.extract 0 n, rfl, by rw [cut_front (by omega)]; exact HT.out, by rw [cut_size (by omega)]; omega⟩
              case measure => simp [slen]; omega
      · have c1 := blank_yes c hb
        have HT := Lib.hid ((triml_cons_blk (l := r) hb).symm.trans HM.out)
        clear HM
        go_wp2_with (go_at_call 53; refine (c1 _).mono ?_; rintro e w' ⟨rfl, rfl⟩)
        go_round
        case rel => exact ⟨r, cut_one c r, HT.out, by simp at hml; omega⟩
        case measure => simp [slen, ByteArray.size]
end Go.Proofs.YtobhdfkhfmpdlaaGreatDoor.Tx

/-
  CONTRACTS of both sides' SplitPair: at every text each returns what stands on both sides of the first =, trimmed, and whether there is one; nothing that was there before is changed.
-/
namespace Go.Proofs.YtobhdfkhfmpdlaaGreatDoor.Tx
open Go Go.RowKit
set_option linter.unusedVariables false
set_option maxRecDepth 1000000

def pairs (l : List UInt8) : List UInt8 × List UInt8 × Bool := (trim (cutAt 61 l).1, trim (cutAt 61 l).2.1, (cutAt 61 l).2.2)
def PairEnd (l : List UInt8) (w : World) (e : Ending) (w' : World) : Prop :=
  e = .returned (.tuple #[.string ⟨(pairs l).1.toArray⟩, .string ⟨(pairs l).2.1.toArray⟩, .bool (pairs l).2.2]) ∧ Below w.heap.size w w'
theorem pair_end {l x y : List UInt8} {b : Bool} {w w' : World} (h : pairs l = (x, y, b)) (hb : Below w.heap.size w w') : PairEnd l w (.returned (.tuple #[.string ⟨x.toArray⟩, .string ⟨y.toArray⟩, .bool b])) w' := by
  unfold PairEnd; rw [h]; exact ⟨rfl, hb⟩
theorem cutAt_len (c : UInt8) (l : List UInt8) : (cutAt c l).1.length ≤ l.length ∧ (cutAt c l).2.1.length ≤ l.length := by
  unfold cutAt; split <;> simp <;> omega
theorem impl_trim_list (l : List UInt8) (w : World) (hs : l.length ≤ 9223372036854775806) :
    Calls Tryz.prog 51 #[.string ⟨l.toArray⟩] w fun e w' => e = .returned (.string ⟨(trim l).toArray⟩) ∧ Below w.heap.size w w' := impl_trim ⟨l.toArray⟩ w (Nat.le_trans hs (by decide))

theorem spec_trim' (s : ByteArray) (w : World) (hs : s.size ≤ 9223372036854775806) :
    Calls Tryz.prog 41 #[.string s] w fun e w' => e = .returned (.string ⟨(trim s.data.toList).toArray⟩) ∧ w' = w :=
  (spec_trim s w hs).mono fun _ _ ⟨h1, h2⟩ => ⟨h1, h2.symm⟩
theorem pair_hit {s : ByteArray} {w w' : World} {k : Nat} (hk : k < s.size) (h1 : ∀ j (hj : j < s.data.toList.length), j < k → s.data.toList[j] ≠ 61) (h2 : ∀ h : k < s.data.toList.length, s.data.toList[k] = 61) (hb : Below w.heap.size w w') :
    PairEnd s.data.toList w (.returned (.tuple #[.string ⟨(trim (s.extract 0 k).data.toList).toArray⟩, .string ⟨(trim (s.extract (k + 1) s.size).data.toList).toArray⟩, .bool true])) w' := by
  have hl : s.data.toList.length = s.size := by rw [Array.length_toList]; rfl
  have hi : k = idx 61 s.data.toList := (idx_eq (by omega) h1 h2).symm
  have e : cutAt 61 s.data.toList = (s.data.toList.take k, s.data.toList.drop (k + 1), true) := by
    unfold cutAt; rw [← hi, hl, if_pos hk]
  unfold PairEnd pairs
  rw [e, ext_eq, ext_eq]
  refine ⟨?_, hb⟩
  have h2 : (s.data.toList.drop (k + 1)).take (s.size - (k + 1)) = s.data.toList.drop (k + 1) := List.take_of_length_le (by rw [List.length_drop, hl]; omega)
  rw [h2, List.drop_zero, Nat.sub_zero]
theorem pair_miss {s : ByteArray} {w w' : World} (h1 : ∀ j (hj : j < s.data.toList.length), j < s.size → s.data.toList[j] ≠ 61) (hb : Below w.heap.size w w') :
    PairEnd s.data.toList w (.returned (.tuple #[.string ⟨(trim s.data.toList).toArray⟩, .string ⟨#[]⟩, .bool false])) w' := by
  have hl : s.data.toList.length = s.size := by rw [Array.length_toList]; rfl
  have hi : idx 61 s.data.toList = s.size := idx_eq (by omega) h1 (fun h => absurd h (by omega))
  have e : cutAt 61 s.data.toList = (s.data.toList, [], false) := by
    unfold cutAt; rw [hi, hl, if_neg (by omega)]
  unfold PairEnd pairs
  rw [e]
  exact ⟨rfl, hb⟩

end Go.Proofs.YtobhdfkhfmpdlaaGreatDoor.Tx

/-
  CONTRACTS of how one ask is read (the program's parseAsk, the model's l8Ask); nothing that was there before is changed.
-/
namespace Go.Proofs.YtobhdfkhfmpdlaaGreatDoor.Rng
open Go Go.RowKit
set_option linter.unusedVariables false
set_option maxRecDepth 1000000

/-- What ParseInt answers, as a function. -/
def pin (l : List UInt8) : Int × Bool := if Lib.itoa (Par.val 0 l : Int) = l ∧ Par.val 0 l ≤ 1000000000000 then ((Par.val 0 l : Int), true) else (0, false)
theorem ps_pin (l : List UInt8) : Par.PS l (pin l).1 (pin l).2 := by
  unfold pin
  split
  · rename_i h; exact Or.inl ⟨rfl, by simp only; omega, by simp only; omega, h.1⟩
  · rename_i h
    refine Or.inr ⟨rfl, rfl, fun u h0 h1 e => h ?_⟩
    have hv := Par.itoa_val h0
    rw [e] at hv
    rw [hv]; exact ⟨e, by omega⟩
theorem pin_nn (l : List UInt8) : 0 ≤ (pin l).1 ∧ (pin l).1 ≤ 1000000000000 := by
  unfold pin; split
  · simp only; omega
  · simp only; omega
theorem pin_nil : pin [] = (0, false) := by
  rcases ps_pin [] with ⟨h1, h2, h3, h4⟩ | ⟨h1, h2, _⟩
  · rw [Par.itoa_nat h2] at h4
    have := Par.dec_val (pin []).1.toNat
    exfalso
    rw [Lib.decDigits] at h4
    split at h4 <;> simp at h4
  · exact Prod.ext h2 h1
def PinEnd (l : List UInt8) (w : World) (e : Ending) (w' : World) : Prop := e = .returned (.tuple #[.int .i64 (pin l).1, .bool (pin l).2]) ∧ Below w.heap.size w w'
theorem pin_end {l : List UInt8} {w : World} {e : Ending} {w' : World} (h : Par.Parsed l w e w') : PinEnd l w e w' := by
  obtain ⟨v, b, hp, rfl, hb⟩ := h
  obtain ⟨rfl, rfl⟩ := hp.uniq (ps_pin l)
  exact ⟨rfl, hb⟩
theorem spec_pin (l : List UInt8) (w : World) (hl : l.length ≤ 1048576) : Calls Tryz.prog 42 #[.string ⟨l.toArray⟩] w (PinEnd l w) :=
  (Par.spec_parse ⟨l.toArray⟩ w (by simp [ByteArray.size]; omega)).mono fun _ _ h => pin_end h
theorem impl_pin (l : List UInt8) (w : World) (hl : l.length ≤ 1048576) (ht : Fmt.Tens w) (he : Par.Errs w) : Calls Tryz.prog 31 #[.string ⟨l.toArray⟩] w (PinEnd l w) :=
  (Par.impl_parse ⟨l.toArray⟩ w (by simp [ByteArray.size]; omega) ht he).mono fun _ _ h => pin_end h

/-- How an ask is read. -/
def pask (l : List UInt8) : (Int × Int) × Bool :=
  if (pin (Tx.cutAt 45 l).1).2 = true ∧ (pin (Tx.cutAt 45 l).2.1).2 = true ∧ (pin (Tx.cutAt 45 l).1).1 ≤ (pin (Tx.cutAt 45 l).2.1).1 then (((pin (Tx.cutAt 45 l).1).1, (pin (Tx.cutAt 45 l).2.1).1), true)
  else if (pin (Tx.cutAt 45 l).1).2 = true ∧ (Tx.cutAt 45 l).2.2 = true ∧ (Tx.cutAt 45 l).2.1 = [] then (((pin (Tx.cutAt 45 l).1).1, -1), true)
  else if (pin (Tx.cutAt 45 l).2.1).2 = true ∧ (Tx.cutAt 45 l).1 = [] then ((-1, (pin (Tx.cutAt 45 l).2.1).1), true) else ((0, 0), false)
def AskEnd (l : List UInt8) (w : World) (e : Ending) (w' : World) : Prop := e = .returned (.tuple #[.agg #[.int .i64 (pask l).1.1, .int .i64 (pask l).1.2], .bool (pask l).2]) ∧ Below w.heap.size w w'
theorem ask_ret {l : List UInt8} {p q : Int} {b : Bool} (h : pask l = ((p, q), b)) : Ending.returned (.tuple #[.agg #[.int .i64 p, .int .i64 q], .bool b]) = .returned (.tuple #[.agg #[.int .i64 (pask l).1.1, .int .i64 (pask l).1.2], .bool (pask l).2]) := by rw [h]
/-- An ask in a block of its own. -/
def ABox (g : Nat) (p q : Int) (w : World) : Prop := w.heap[g]? = some (.cells #[.int .i64 p, .int .i64 q] 30 (0, 0))
theorem abox_new (w : World) (p q : Int) : ABox w.heap.size p q (w.alloc (.cells #[.int .i64 p, .int .i64 q] 30)) := heap_alloc_new w _
theorem abox_keep {g : Nat} {p q : Int} {w w' : World} (h : ABox g p q w) (hb : Below w.heap.size w w') : ABox g p q w' := by
  have hlt : g < w.heap.size := by
    rcases Nat.lt_or_ge g w.heap.size with h' | h'
    · exact h'
    · unfold ABox at h; rw [Array.getElem?_eq_none h'] at h; cases h
  exact (hb.block g hlt).trans h
theorem abox_facts {g : Nat} {p q : Int} {w : World} (h : ABox g p q w) : (w.cell? ⟨g, 0, none⟩ = some (.int .i64 p) ∧ w.cell? ⟨g, 1, none⟩ = some (.int .i64 q)) ∧ w.frozen? ⟨g, 0, none⟩ = false ∧ w.frozen? ⟨g, 1, none⟩ = false :=
  ⟨⟨cell_of_row w g 0 _ _ (0, 0) h, cell_of_row w g 1 _ _ (0, 0) h⟩, frozen_of_row w g 0 _ _ h, frozen_of_row w g 1 _ _ h⟩

set_option maxHeartbeats 8000000 in
theorem impl_ask (l : List UInt8) (w : World) (hl : l.length ≤ 1048576) (ht : Fmt.Tens w) (he : Par.Errs w) :
    Calls Tryz.prog 15 #[.string ⟨l.toArray⟩] w (AskEnd l w) := by
  have HA : Hid (Below w.heap.size w (w.alloc (.cells #[.int .i64 0, .int .i64 0] 30))) := Lib.hid ((Below.refl _ _).alloc (Nat.le_refl _) _)
  have HBX := Lib.hid (abox_new w 0 0)
  have HTE := Lib.hid (fun W (hb : Below w.heap.size w W) => And.intro (Fmt.tens_below ht hb) (Par.errs_below he hb))
  have hcl := Tx.cutAt_len 45 l
  have c1 := fun W => Tx.cut_any ⟨l.toArray⟩ 45 W (by simp [ByteArray.size]; omega)
  have HC : Hid (∀ W : World, Calls Tryz.prog 30 #[.string ⟨l.toArray⟩, .string ⟨#[45]⟩] W fun e w' => e = .returned (.tuple #[.string ⟨(Tx.cutAt 45 l).1.toArray⟩, .string ⟨(Tx.cutAt 45 l).2.1.toArray⟩, .bool (Tx.cutAt 45 l).2.2]) ∧ Below W.heap.size W w') := Lib.hid (fun W => c1 W)
  have HP : Hid (pask l = _) := Lib.hid (show pask l = _ by unfold pask; rfl)
  generalize Tx.cutAt 45 l = x at HC HP hcl
  obtain ⟨x1, x2, fd⟩ := x
  simp only at HC HP hcl
  have HI1 := Lib.hid (fun W (hb : Below w.heap.size w W) => impl_pin x1 W (by omega) (HTE.out W hb).1 (HTE.out W hb).2)
  have HI2 := Lib.hid (fun W (hb : Below w.heap.size w W) => impl_pin x2 W (by omega) (HTE.out W hb).1 (HTE.out W hb).2)
  unfold PinEnd at HI1 HI2
  have hb1 := pin_nn x1
  have hb2 := pin_nn x2
  generalize pin x1 = p1 at HI1 HP hb1
  generalize pin x2 = p2 at HI2 HP hb2
  obtain ⟨p1, b1⟩ := p1
  obtain ⟨p2, b2⟩ := p2
  simp only at HI1 HI2 HP hb1 hb2
  clear hl ht he hcl c1 HTE
  by_cases hle : p1 ≤ p2
  all_goals (
    cases b1 <;> cases b2 <;> cases fd <;> rcases x1 with _ | ⟨y1, r1⟩ <;> rcases x2 with _ | ⟨y2, r2⟩)
  all_goals (
    have HP2 := HP.out
    simp [hle] at HP2
    have HE := Lib.hid HP2
    clear HP HP2
    go_enter Tryz.func15, Tryz.ntmps15
    go_wp2_with (fail)
    go_at_call 30
    refine (HC.out _).mono ?_
    rintro e w1 ⟨rfl, k1⟩
    have HBX := Lib.hid (abox_keep HBX.out k1)
    have HB := Lib.hid (Base.then_below HA.out k1)
    clear k1 HC
    go_wp2_with (fail)
    go_at_call 31
    refine (HI1.out _ HB.out).mono ?_
    rintro e w2 ⟨rfl, k1⟩
    have HBX := Lib.hid (abox_keep HBX.out k1)
    have HB := Lib.hid (Base.then_below HB.out k1)
    clear k1 HI1
    go_wp2_with (fail)
    go_at_call 31
    refine (HI2.out _ HB.out).mono ?_
    rintro e w3 ⟨rfl, k1⟩
    have HBX := Lib.hid (abox_keep HBX.out k1)
    have HB := Lib.hid (Base.then_below HB.out k1)
    obtain ⟨⟨q0, q1⟩, z0, z1⟩ := abox_facts HBX.out
    clear k1 HI2
    go_wp2
    refine bodyPost_ret (v := .tuple #[.agg #[.int .i64 (pask l).1.1, .int .i64 (pask l).1.2], .bool (pask l).2]) (by rw [HE.out]; simp [results, Tryz.results15, go_sem, q0, q1]) rfl ⟨rfl, ?_⟩
    exact (HB.out.setCell (Nat.le_refl _) _).setCell (Nat.le_refl _) _)
end Go.Proofs.YtobhdfkhfmpdlaaGreatDoor.Rng
