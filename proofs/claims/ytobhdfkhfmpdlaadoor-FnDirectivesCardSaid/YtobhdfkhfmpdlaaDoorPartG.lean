/-
  CONTRACTS AND PLAIN FACTS, several texts in one; each says in its own words what it proves.
-/
import Derived.Test.YtobhdfkhfmpdlaaDoorPartD
import Derived.Test.YtobhdfkhfmpdlaaDoorPartA
import Derived.Test.YtobhdfkhfmpdlaaDoorPartF
import Derived.Deep.QuietTactic
import Derived.BigQuiet
import Derived.LoopTactic
import Derived.Outline
import Derived.Test.YtobhdfkhfmpdlaaDoorPartE
import Derived.Test.YtobhdfkhfmpdlaaDoorPartB
import Derived.Lib.SlTrimSet
set_option linter.unusedSimpArgs false
set_option linter.unusedVariables false

/-
  CONTRACT of strings.Cut at a separator of one byte: what stands before the first such byte, what stands behind it, and whether there is one; nothing that was there before is changed.
-/
namespace Go.Proofs.YtobhdfkhfmpdlaaDoor.Tx
open Go Go.RowKit
set_option linter.unusedVariables false
set_option maxRecDepth 1000000

theorem indexByte_idx (c : UInt8) (l : List UInt8) : Lib.indexByte l c = if idx c l < l.length then (idx c l : Int) else -1 := by
  induction l with
  | nil => simp [Lib.indexByte, idx]
  | cons a r ih =>
    unfold Lib.indexByte idx
    by_cases h : a == c
    · rw [if_pos h, if_pos h, if_pos (by simp)]; rfl
    · rw [if_neg h, if_neg h, ih]
      by_cases hl : idx c r < r.length
      · have hn : ((idx c r : Int) == -1) = false := by rw [beq_eq_false_iff_ne]; omega
        rw [if_pos hl, hn, if_neg (by simp), if_pos (by simp; omega)]; omega
      · rw [if_neg hl, if_pos (by decide), if_neg (by simp; omega)]
/-- How a cut ends. -/
def CutEnd (c : UInt8) (l : List UInt8) (w : World) (e : Ending) (w' : World) : Prop :=
  e = .returned (.tuple #[.string ⟨(cutAt c l).1.toArray⟩, .string ⟨(cutAt c l).2.1.toArray⟩, .bool (cutAt c l).2.2]) ∧ Below w.heap.size w w'
theorem below_drewN' {B : Nat} {a w : World} (h : Below B a w) (n : Nat) : Below B a (w.drewN n) := ⟨h.os, h.tape, h.output, h.size, h.block⟩
theorem ext_eq (s : ByteArray) (a b : Nat) : s.extract a b = ⟨((s.data.toList.drop a).take (b - a)).toArray⟩ := by
  apply ByteArray.ext
  rw [ByteArray.data_extract]
  apply Array.ext'
  simp
theorem cut_hit {s : ByteArray} {c : UInt8} {w w' : World} {i : Nat} (hi : i = idx c s.data.toList) (h : i < s.size) (hb : Below w.heap.size w w') :
    CutEnd c s.data.toList w (.returned (.tuple #[.string (s.extract 0 i), .string (s.extract (i + 1) s.size), .bool true])) w' := by
  have hl : s.data.toList.length = s.size := by rw [Array.length_toList]; rfl
  have e : cutAt c s.data.toList = (s.data.toList.take i, s.data.toList.drop (i + 1), true) := by
    unfold cutAt; rw [← hi, hl, if_pos h]
  unfold CutEnd
  rw [e, ext_eq, ext_eq]
  refine ⟨?_, hb⟩
  have h2 : (s.data.toList.drop (i + 1)).take (s.size - (i + 1)) = s.data.toList.drop (i + 1) := List.take_of_length_le (by rw [List.length_drop, hl]; omega)
  rw [h2, List.drop_zero, Nat.sub_zero]
theorem cut_miss {s : ByteArray} {c : UInt8} {w w' : World} (h : ¬ idx c s.data.toList < s.size) (hb : Below w.heap.size w w') :
    CutEnd c s.data.toList w (.returned (.tuple #[.string s, .string ⟨#[]⟩, .bool false])) w' := by
  have hl : s.data.toList.length = s.size := by rw [Array.length_toList]; rfl
  have e : cutAt c s.data.toList = (s.data.toList, [], false) := by
    unfold cutAt; rw [hl, if_neg h]
  unfold CutEnd
  rw [e]
  exact ⟨by simp, hb⟩

set_option maxHeartbeats 1000000 in
theorem lite_cut (s : ByteArray) (c : UInt8) (w : World) (hs : s.size ≤ 9223372036854775806) :
    Calls Tryd.prog 78 #[.string s, .string ⟨#[c]⟩] w (CutEnd c s.data.toList w) := by
  have hl : s.data.toList.length = s.size := by rw [Array.length_toList]; rfl
  have c1 := Tryd.stringslite_Index_one s c w
  rw [indexByte_idx, hl] at c1
  by_cases h : idx c s.data.toList < s.size
  · rw [if_pos h] at c1
    obtain ⟨i, hi⟩ : ∃ i, i = idx c s.data.toList := ⟨_, rfl⟩
    rw [← hi] at c1 h
    have HI := Lib.hid hi
    clear hi hl
    go_enter Tryd.func78, Tryd.ntmps78
    go_wp2_with (go_at_call 94; refine c1.mono ?_; rintro e w' ⟨rfl, rfl⟩)
    go_quiet (fail)
    go_wp2
    go_ret3
    exact cut_hit HI.out h (below_drewN' (Below.refl _ _) _)
  · rw [if_neg h] at c1
    have H := Lib.hid h
    clear h hl
    go_enter Tryd.func78, Tryd.ntmps78
    go_wp2_with (go_at_call 94; refine c1.mono ?_; rintro e w' ⟨rfl, rfl⟩)
    go_ret3
    exact cut_miss H.out (Below.refl _ _)

theorem cut_any (s : ByteArray) (c : UInt8) (w : World) (hs : s.size ≤ 9223372036854775806) :
    Calls Tryd.prog 51 #[.string s, .string ⟨#[c]⟩] w (CutEnd c s.data.toList w) := by
  have c1 := lite_cut s c w hs
  go_enter Tryd.func51, Tryd.ntmps51
  go_wp2_with (go_at_call 78; refine c1.mono ?_; rintro e w' ⟨rfl, hb⟩)
  go_ret3
  exact ⟨rfl, hb⟩
end Go.Proofs.YtobhdfkhfmpdlaaDoor.Tx

/-
  CONTRACTS of both sides' TrimText: at every text each returns it without the blanks at its beginning and its end; nothing that was there before is changed.
-/
namespace Go.Proofs.YtobhdfkhfmpdlaaDoor.Tx
open Go Go.RowKit
set_option linter.unusedVariables false
set_option maxRecDepth 1000000

theorem impl_trim (s : ByteArray) (w : World) (hs : s.size ≤ 9223372036854775807) :
    Calls Tryd.prog 52 #[.string s] w fun e w' => e = .returned (.string ⟨(trim s.data.toList).toArray⟩) ∧ Below w.heap.size w w' := by
  have hcon := Tryd.strings_Trim_laid s ⟨#[32, 9]⟩ w hs (by decide) (ascii_of_all (by decide))
  change Calls Tryd.prog 74 _ _ (fun e w' => e = .returned (.string ⟨(Lib.trimS s.data.toList [32, 9]).toArray⟩) ∧ Below w.heap.size w w') at hcon
  rw [trim_set] at hcon
  generalize (⟨(trim s.data.toList).toArray⟩ : ByteArray) = r at hcon ⊢
  go_enter Tryd.func52, Tryd.ntmps52
  go_wp2_with (go_at_call 74; refine hcon.mono ?_; rintro e w' ⟨rfl, hB⟩)
  go_ret
  exact ⟨rfl, hB⟩

def slen : Value → Nat
  | .string s => s.size
  | _ => 0
theorem ret_str {a b : List UInt8} (h : a = b) : Ending.returned (.string ⟨a.toArray⟩) = .returned (.string ⟨b.toArray⟩) := by rw [h]
theorem blank_yes (c : UInt8) (h : blk c = true) (w : World) : Calls Tryd.prog 84 #[.int .u8 (c.toNat : Int)] w fun e w' => e = .returned (.bool true) ∧ w = w' := by
  have : c = 32 ∨ c = 9 := by unfold blk at h; simpa using h
  rcases this with rfl | rfl
  all_goals
    go_enter Tryd.func84, Tryd.ntmps84
    go_wp2
    go_ret
    exact ⟨rfl, rfl⟩
theorem blank_no (c : UInt8) (h : blk c = false) (w : World) : Calls Tryd.prog 84 #[.int .u8 (c.toNat : Int)] w fun e w' => e = .returned (.bool false) ∧ w = w' := by
  have h1 : ((c.toNat : Int) == 32) = false := by
    rw [beq_eq_false_iff_ne]; intro e
    have : c = 32 := UInt8.toNat_inj.1 (by simp; omega)
    subst this; revert h; decide
  have h2 : ((c.toNat : Int) == 9) = false := by
    rw [beq_eq_false_iff_ne]; intro e
    have : c = 9 := UInt8.toNat_inj.1 (by simp; omega)
    subst this; revert h; decide
  clear h
  go_enter Tryd.func84, Tryd.ntmps84
  go_wp2
  go_ret
  exact ⟨rfl, rfl⟩

theorem empty_eq {x : ByteArray} (h : x.size = 0) : x.data.toList = [] := List.eq_nil_of_length_eq_zero (by rw [Array.length_toList]; exact h)
theorem ret_trim {x : ByteArray} {a : List UInt8} (h : [] = a) (hx : x.data.toList = []) : Ending.returned (.string x) = .returned (.string ⟨a.toArray⟩) := by
  subst h
  have : x = ⟨#[]⟩ := by
    have : x.data = #[] := by simpa using hx
    cases x; simp_all
  rw [this]
theorem ret_bytes {x : ByteArray} {a : List UInt8} (h : x.data.toList = a) : Ending.returned (.string x) = .returned (.string ⟨a.toArray⟩) := by subst h; simp
theorem cut_front {x : ByteArray} {n : Nat} (h : n ≤ x.size) : (x.extract 0 n).data.toList = x.data.toList.take n := by simp
theorem cut_size {x : ByteArray} {n : Nat} (h : n ≤ x.size) : (x.extract 0 n).size = n := by simp; omega
theorem cut_one (c : UInt8) (r : List UInt8) : Value.string ((⟨(c :: r).toArray⟩ : ByteArray).extract 1 (r.length + 1)) = .string ⟨r.toArray⟩ := by
  congr 1
  have : ((⟨(c :: r).toArray⟩ : ByteArray).extract 1 (r.length + 1)).data = r.toArray := by simp
  exact ByteArray.ext this
theorem last_split {x : ByteArray} {n : Nat} (hn : x.size = n + 1) (h : n < x.size) : x.data.toList = x.data.toList.take n ++ [x[n]] := by
  have e : x.data.toList.take (n + 1) = x.data.toList := List.take_of_length_le (by rw [Array.length_toList]; have : x.data.size = x.size := rfl; omega)
  have s := List.take_succ_eq_append_getElem (l := x.data.toList) (i := n) (by rw [Array.length_toList]; exact h)
  rw [e] at s
  exact s
theorem last_no {x : ByteArray} {n : Nat} (hn : x.size = n + 1) (h : n < x.size) (hb : blk x[n] = false) : trimr x.data.toList = x.data.toList := by
  rw [last_split hn h]; exact trimr_snoc_no hb
theorem last_yes {x : ByteArray} {n : Nat} (hn : x.size = n + 1) (h : n < x.size) (hb : blk x[n] = true) : trimr x.data.toList = trimr (x.data.toList.take n) := by
  conv => lhs; rw [last_split hn h]
  exact trimr_snoc_blk hb

set_option maxHeartbeats 1000000 in
theorem spec_trim (s : ByteArray) (w : World) (hs : s.size ≤ 9223372036854775806) :
    Calls Tryd.prog 69 #[.string s] w fun e w' => e = .returned (.string ⟨(trim s.data.toList).toArray⟩) ∧ w = w' := by
  obtain ⟨l, rfl⟩ : ∃ l : List UInt8, s = ⟨l.toArray⟩ := ⟨s.data.toList, by simp⟩
  show Calls _ _ _ _ (fun e w' => e = .returned (.string ⟨(trim l).toArray⟩) ∧ w = w')
  have hl : l.length ≤ 9223372036854775806 := hs
  clear hs
  go_enter Tryd.func69, Tryd.ntmps69
  go_wp2
  go_loop [0] (fun t => ∃ m : List UInt8, t = .string ⟨m.toArray⟩ ∧ triml m = triml l ∧ m.length ≤ l.length) (fun t => slen t)
  case atStart => exact ⟨l, rfl, rfl, Nat.le_refl _⟩
  case round =>
    obtain ⟨m, rfl, hm, hml⟩ := hrel
    have HM := Lib.hid hm
    clear hm
    cases m with
    | nil =>
      have HT : Hid (trimr [] = trim l) := Lib.hid (by rw [← trimr_triml, ← HM.out]; rfl)
      go_wp2
      go_loop [0] (fun t => ∃ x : ByteArray, t = .string x ∧ trimr x.data.toList = trim l ∧ x.size ≤ l.length) (fun t => slen t)
      case atStart => exact ⟨_, rfl, HT.out, hml⟩
      case round =>
        clear HT HM
        obtain ⟨x, rfl, hm, hml2⟩ := hrel
        have HM := Lib.hid hm
        clear hm
        rcases Nat.eq_zero_or_pos x.size with h0 | h0
        · have HE := Lib.hid (empty_eq h0)
          go_wp2
          go_ret
          exact ⟨ret_trim (by rw [← HM.out, HE.out]; rfl) HE.out, rfl⟩
        · obtain ⟨n, hn⟩ : ∃ n, x.size = n + 1 := ⟨x.size - 1, by omega⟩
          have hxn : n < x.size := by omega
          rcases hb2 : blk x[n] with _ | _
          · have c3 := blank_no x[n] hb2
            have HT := Lib.hid ((last_no hn hxn hb2).symm.trans HM.out)
            go_wp2_with (go_at_call 84; refine (c3 _).mono ?_; rintro e w' ⟨rfl, rfl⟩)
            go_ret
            exact ⟨ret_bytes HT.out, rfl⟩
          · have c3 := blank_yes x[n] hb2
            have HT := Lib.hid ((last_yes hn hxn hb2).symm.trans HM.out)
            go_wp2_with (go_at_call 84; refine (c3 _).mono ?_; rintro e w' ⟨rfl, rfl⟩)
            go_round
            case rel => exact ⟨x.extract 0 n, rfl, by rw [cut_front (by omega)]; exact HT.out, by rw [cut_size (by omega)]; omega⟩
            case measure => simp [slen]; omega
    | cons c r =>
      rcases hb : blk c with _ | _
      · have c1 := blank_no c hb
        have HT : Hid (trimr (c :: r) = trim l) := Lib.hid (by rw [← trimr_triml, ← HM.out, triml_cons_no hb])
        go_wp2_with (go_at_call 84; refine (c1 _).mono ?_; rintro e w' ⟨rfl, rfl⟩)
        go_loop [0] (fun t => ∃ x : ByteArray, t = .string x ∧ trimr x.data.toList = trim l ∧ x.size ≤ l.length) (fun t => slen t)
        case atStart => exact ⟨_, rfl, HT.out, hml⟩
        case round =>
          clear HT HM
          obtain ⟨x, rfl, hm, hml2⟩ := hrel
          have HM := Lib.hid hm
          clear hm
          rcases Nat.eq_zero_or_pos x.size with h0 | h0
          · have HE := Lib.hid (empty_eq h0)
            go_wp2
            go_ret
            exact ⟨ret_trim (by rw [← HM.out, HE.out]; rfl) HE.out, rfl⟩
          · obtain ⟨n, hn⟩ : ∃ n, x.size = n + 1 := ⟨x.size - 1, by omega⟩
            have hxn : n < x.size := by omega
            rcases hb2 : blk x[n] with _ | _
            · have c3 := blank_no x[n] hb2
              have HT := Lib.hid ((last_no hn hxn hb2).symm.trans HM.out)
              go_wp2_with (go_at_call 84; refine (c3 _).mono ?_; rintro e w' ⟨rfl, rfl⟩)
              go_ret
              exact ⟨ret_bytes HT.out, rfl⟩
            · have c3 := blank_yes x[n] hb2
              have HT := Lib.hid ((last_yes hn hxn hb2).symm.trans HM.out)
              go_wp2_with (go_at_call 84; refine (c3 _).mono ?_; rintro e w' ⟨rfl, rfl⟩)
              go_round
              case rel => exact ⟨x.extract 0 n, rfl, by rw [cut_front (by omega)]; exact HT.out, by rw [cut_size (by omega)]; omega⟩
              case measure => simp [slen]; omega
      · have c1 := blank_yes c hb
        have HT := Lib.hid ((triml_cons_blk (l := r) hb).symm.trans HM.out)
        clear HM
        go_wp2_with (go_at_call 84; refine (c1 _).mono ?_; rintro e w' ⟨rfl, rfl⟩)
        go_round
        case rel => exact ⟨r, cut_one c r, HT.out, by simp at hml; omega⟩
        case measure => simp [slen, ByteArray.size]
end Go.Proofs.YtobhdfkhfmpdlaaDoor.Tx

/-
  CONTRACTS of both sides' SplitPair: at every text each returns what stands on both sides of the first =, trimmed, and whether there is one; nothing that was there before is changed.
-/
namespace Go.Proofs.YtobhdfkhfmpdlaaDoor.Tx
open Go Go.RowKit
set_option linter.unusedVariables false
set_option maxRecDepth 1000000

def pairs (l : List UInt8) : List UInt8 × List UInt8 × Bool := (trim (cutAt 61 l).1, trim (cutAt 61 l).2.1, (cutAt 61 l).2.2)
def PairEnd (l : List UInt8) (w : World) (e : Ending) (w' : World) : Prop :=
  e = .returned (.tuple #[.string ⟨(pairs l).1.toArray⟩, .string ⟨(pairs l).2.1.toArray⟩, .bool (pairs l).2.2]) ∧ Below w.heap.size w w'
theorem pair_end {l x y : List UInt8} {b : Bool} {w w' : World} (h : pairs l = (x, y, b)) (hb : Below w.heap.size w w') : PairEnd l w (.returned (.tuple #[.string ⟨x.toArray⟩, .string ⟨y.toArray⟩, .bool b])) w' := by
  unfold PairEnd; rw [h]; exact ⟨rfl, hb⟩
theorem cutAt_len (c : UInt8) (l : List UInt8) : (cutAt c l).1.length ≤ l.length ∧ (cutAt c l).2.1.length ≤ l.length := by
  unfold cutAt; split <;> simp <;> omega
theorem impl_trim_list (l : List UInt8) (w : World) (hs : l.length ≤ 9223372036854775806) :
    Calls Tryd.prog 52 #[.string ⟨l.toArray⟩] w fun e w' => e = .returned (.string ⟨(trim l).toArray⟩) ∧ Below w.heap.size w w' := impl_trim ⟨l.toArray⟩ w (Nat.le_trans hs (by decide))

set_option maxHeartbeats 1000000 in
theorem impl_pair (s : ByteArray) (w : World) (hs : s.size ≤ 9223372036854775806) :
    Calls Tryd.prog 63 #[.string s] w (PairEnd s.data.toList w) := by
  have hl : s.data.toList.length = s.size := by rw [Array.length_toList]; rfl
  have HL := Lib.hid (cutAt_len 61 s.data.toList)
  have c1 := cut_any s 61 w hs
  unfold CutEnd at c1
  have HP : Hid (pairs s.data.toList = (trim (cutAt 61 s.data.toList).1, trim (cutAt 61 s.data.toList).2.1, (cutAt 61 s.data.toList).2.2)) := Lib.hid rfl
  generalize (cutAt 61 s.data.toList).1 = x, (cutAt 61 s.data.toList).2.1 = y, (cutAt 61 s.data.toList).2.2 = b at *
  go_enter Tryd.func63, Tryd.ntmps63
  go_wp2_with (fail)
  go_at_call 51
  refine c1.mono ?_
  rintro e w1 ⟨rfl, hb1⟩
  go_wp2_with (fail)
  go_at_call 52
  refine (impl_trim_list x _ (by have := HL.out; omega)).mono ?_
  rintro e w2 ⟨rfl, hb2⟩
  go_wp2_with (fail)
  go_at_call 52
  refine (impl_trim_list y _ (by have := HL.out; omega)).mono ?_
  rintro e w3 ⟨rfl, hb3⟩
  go_wp2
  go_ret3
  exact pair_end HP.out (Base.then_below (Base.then_below hb1 hb2) hb3)

theorem spec_trim' (s : ByteArray) (w : World) (hs : s.size ≤ 9223372036854775806) :
    Calls Tryd.prog 69 #[.string s] w fun e w' => e = .returned (.string ⟨(trim s.data.toList).toArray⟩) ∧ w' = w :=
  (spec_trim s w hs).mono fun _ _ ⟨h1, h2⟩ => ⟨h1, h2.symm⟩
theorem pair_hit {s : ByteArray} {w w' : World} {k : Nat} (hk : k < s.size) (h1 : ∀ j (hj : j < s.data.toList.length), j < k → s.data.toList[j] ≠ 61) (h2 : ∀ h : k < s.data.toList.length, s.data.toList[k] = 61) (hb : Below w.heap.size w w') :
    PairEnd s.data.toList w (.returned (.tuple #[.string ⟨(trim (s.extract 0 k).data.toList).toArray⟩, .string ⟨(trim (s.extract (k + 1) s.size).data.toList).toArray⟩, .bool true])) w' := by
  have hl : s.data.toList.length = s.size := by rw [Array.length_toList]; rfl
  have hi : k = idx 61 s.data.toList := (idx_eq (by omega) h1 h2).symm
  have e : cutAt 61 s.data.toList = (s.data.toList.take k, s.data.toList.drop (k + 1), true) := by
    unfold cutAt; rw [← hi, hl, if_pos hk]
  unfold PairEnd pairs
  rw [e, ext_eq, ext_eq]
  refine ⟨?_, hb⟩
  have h2 : (s.data.toList.drop (k + 1)).take (s.size - (k + 1)) = s.data.toList.drop (k + 1) := List.take_of_length_le (by rw [List.length_drop, hl]; omega)
  rw [h2, List.drop_zero, Nat.sub_zero]
theorem pair_miss {s : ByteArray} {w w' : World} (h1 : ∀ j (hj : j < s.data.toList.length), j < s.size → s.data.toList[j] ≠ 61) (hb : Below w.heap.size w w') :
    PairEnd s.data.toList w (.returned (.tuple #[.string ⟨(trim s.data.toList).toArray⟩, .string ⟨#[]⟩, .bool false])) w' := by
  have hl : s.data.toList.length = s.size := by rw [Array.length_toList]; rfl
  have hi : idx 61 s.data.toList = s.size := idx_eq (by omega) h1 (fun h => absurd h (by omega))
  have e : cutAt 61 s.data.toList = (s.data.toList, [], false) := by
    unfold cutAt; rw [hi, hl, if_neg (by omega)]
  unfold PairEnd pairs
  rw [e]
  exact ⟨rfl, hb⟩

set_option maxHeartbeats 1000000 in
theorem spec_pair (s : ByteArray) (w : World) (hs : s.size ≤ 9223372036854775806) :
    Calls Tryd.prog 31 #[.string s] w (PairEnd s.data.toList w) := by
  go_enter Tryd.func31, Tryd.ntmps31
  go_wp2
  go_loop [5] (fun i => ∃ k : Nat, k ≤ s.size ∧ i = .int .i64 k ∧ ∀ j (hj : j < s.data.toList.length), j < k → s.data.toList[j] ≠ 61) (fun i => s.size - (intOf i).toNat)
  case atStart => exact ⟨0, Nat.zero_le _, rfl, fun j hj h => absurd h (by omega)⟩
  case round =>
    obtain ⟨k, hk, rfl, hno⟩ := hrel
    have HN := Lib.hid hno
    clear hno
    by_cases hlt : k < s.size
    · rcases hc : ((s[k].toNat : Int) == 61) with _ | _
      · have HC : Hid (s[k] ≠ 61) := Lib.hid (by intro h; rw [h] at hc; revert hc; decide)
        go_wp2
        go_round
        case rel => exact ⟨k + 1, by omega, by go_num, fun j hj h => by
          rcases Nat.lt_or_ge j k with h' | h'
          · exact HN.out j hj h'
          · have : j = k := by omega
            subst this; exact HC.out⟩
        case measure => simp [intOf]; omega
      · have HC : Hid (s[k] = 61) := Lib.hid (UInt8.toNat_inj.1 (by have := beq_iff_eq.1 hc; simp; omega))
        go_wp2
        go_quiet ((go_at_call 69; exact Calls.quiet_of_same (spec_trim' _ _ (by simp; omega))))
        go_wp2
        go_ret3
        exact pair_hit hlt HN.out (fun _ => HC.out) (below_drewN' (Below.refl _ _) _)
    · obtain rfl : k = s.size := by omega
      go_wp2_with (go_at_call 69; refine (spec_trim s _ hs).mono ?_; rintro e w' ⟨rfl, rfl⟩)
      go_ret3
      exact pair_miss HN.out (Below.refl _ _)
end Go.Proofs.YtobhdfkhfmpdlaaDoor.Tx

/-
  PLAIN FACTS on the directives that are read from a text.
-/
namespace Go.Proofs.YtobhdfkhfmpdlaaDoor.Dir
open Go Go.RowKit
set_option linter.unusedVariables false
set_option maxRecDepth 1000000

/-- The directive that an element is, if it is one. -/
def dread (x : List UInt8) : Option T :=
  if Tx.token (Tx.pairs x).1 then
    if (Tx.pairs x).2.2 then
      if Tx.token (Tx.pairs x).2.1 then some (Tx.lower (Tx.pairs x).1, (Tx.pairs x).2.1, true)
      else if Tx.unqOk (Tx.pairs x).2.1 then some (Tx.lower (Tx.pairs x).1, Tx.unqText (Tx.pairs x).2.1, true) else none
    else some (Tx.lower (Tx.pairs x).1, [], false)
  else none
def dparts (xs : List (List UInt8)) : List T := xs.filterMap dread
def dparse (s : List UInt8) : List T := dparts (Tx.split s)
theorem dparts_more {xs : List (List UInt8)} {k : Nat} (h : k < xs.length) : dparts (xs.take (k + 1)) = dparts (xs.take k) ++ (dread (xs.getD k [])).toList := by
  unfold dparts
  rw [List.take_succ_eq_append_getElem h, List.filterMap_append, show xs.getD k [] = xs[k] by simp [List.getD, h]]
  rw [List.filterMap_cons, List.filterMap_nil]
  cases hx : dread xs[k] <;> simp [hx]
theorem dparts_yes {xs : List (List UInt8)} {k : Nat} {d : T} (h : k < xs.length) (hd : dread (xs.getD k []) = some d) : dparts (xs.take (k + 1)) = dparts (xs.take k) ++ [d] := by rw [dparts_more h, hd]; rfl
theorem dparts_no {xs : List (List UInt8)} {k : Nat} (h : k < xs.length) (hd : dread (xs.getD k []) = none) : dparts (xs.take (k + 1)) = dparts (xs.take k) := by rw [dparts_more h, hd]; simp
theorem dparts_len (xs : List (List UInt8)) : (dparts xs).length ≤ xs.length := List.length_filterMap_le _ _
theorem tokc_low (c : UInt8) : Tx.tokc (Tx.lowc c) = Tx.tokc c := by
  have h : ∀ n : Fin 256, Tx.tokc (Tx.lowc (UInt8.ofNat n.1)) = Tx.tokc (UInt8.ofNat n.1) := by decide +kernel
  have e : UInt8.ofNat c.toNat = c := by simp
  have := h ⟨c.toNat, c.toNat_lt⟩
  rw [e] at this; exact this
theorem token_low (l : List UInt8) : Tx.token (Tx.lower l) = Tx.token l := by
  unfold Tx.token Tx.lower
  rw [List.all_map, List.length_map]
  congr 1
  congr 1
  funext c; exact tokc_low c
theorem token_head {c : UInt8} {r : List UInt8} (h : Tx.tokc c = false) : Tx.token (c :: r) = false := by unfold Tx.token; simp [h]
theorem token_nil : Tx.token [] = false := rfl
theorem quote_token (r : List UInt8) : Tx.token (34 :: r) = false := token_head (by decide)
theorem unq_head {c : UInt8} {r : List UInt8} (h : c ≠ 34) : Tx.unqOk (c :: r) = false := by unfold Tx.unqOk; simp [h]
theorem unq_empty : Tx.unqOk [] = false := rfl
theorem pairs_no {x : List UInt8} (h : (Tx.pairs x).2.2 = false) : (Tx.pairs x).2.1 = [] := by
  unfold Tx.pairs Tx.cutAt at *
  split at h
  · simp at h
  · rename_i h1; rw [if_neg h1]; rfl
/-- The parts of an element, with what dread makes of them. -/
theorem dread_eq {x a b : List UInt8} {q : Bool} (h : Tx.pairs x = (a, b, q)) : dread x = if Tx.token a then (if q then (if Tx.token b then some (Tx.lower a, b, true) else if Tx.unqOk b then some (Tx.lower a, Tx.unqText b, true) else none) else some (Tx.lower a, [], false)) else none := by
  unfold dread; rw [h]
theorem trim_len (l : List UInt8) : (Tx.trim l).length ≤ l.length := by
  obtain ⟨q, hq, _⟩ := Tx.trimr_prefix l
  obtain ⟨p, hp, _⟩ := Tx.triml_suffix (Tx.trimr l)
  have h1 := congrArg List.length hq
  have h2 := congrArg List.length hp
  rw [List.length_append] at h1 h2
  show (Tx.triml (Tx.trimr l)).length ≤ l.length
  omega
theorem pairs_len (x : List UInt8) : (Tx.pairs x).1.length ≤ x.length ∧ (Tx.pairs x).2.1.length ≤ x.length := by
  have h := Tx.cutAt_len 61 x
  unfold Tx.pairs
  exact ⟨Nat.le_trans (trim_len _) h.1, Nat.le_trans (trim_len _) h.2⟩
end Go.Proofs.YtobhdfkhfmpdlaaDoor.Dir

/-
  PLAIN FACTS on the bytes of a text, one by one.
-/
namespace Go.Proofs.YtobhdfkhfmpdlaaDoor.Tx
open Go
set_option linter.unusedVariables false
set_option maxRecDepth 1000000

theorem take_snoc (s : ByteArray) (k : Nat) (h : k < s.size) : s.data.toList.take (k + 1) = s.data.toList.take k ++ [s[k]] := by
  rw [List.take_succ_eq_append_getElem (by simpa using h)]; rfl
theorem drop_cons (s : ByteArray) (k : Nat) (h : k < s.size) : s.data.toList.drop k = s[k] :: s.data.toList.drop (k + 1) := by
  rw [List.drop_eq_getElem_cons (by simpa using h)]; rfl
theorem list_len (s : ByteArray) : s.data.toList.length = s.size := by rw [Array.length_toList]; rfl
theorem eq_nat {c : UInt8} {n : Nat} (hn : n < 256) : ((c.toNat : Int) == (n : Int)) = (c == UInt8.ofNat n) := by
  rw [Bool.eq_iff_iff, beq_iff_eq, beq_iff_eq]
  constructor
  · intro h; exact UInt8.toNat_inj.1 (by simp; omega)
  · intro h; rw [h]; simp; omega
theorem e34 (c : UInt8) : ((c.toNat : Int) == 34) = (c == 34) := eq_nat (n := 34) (by omega)
theorem e92 (c : UInt8) : ((c.toNat : Int) == 92) = (c == 92) := eq_nat (n := 92) (by omega)
theorem e44 (c : UInt8) : ((c.toNat : Int) == 44) = (c == 44) := eq_nat (n := 44) (by omega)

end Go.Proofs.YtobhdfkhfmpdlaaDoor.Tx

/-
  PLAIN FACTS on a quoted string that is being written.
-/
namespace Go.Proofs.YtobhdfkhfmpdlaaDoor.Tx
open Go Go.RowKit Bys
set_option linter.unusedVariables false
set_option maxRecDepth 1000000

/-- The quoted string when k bytes are in. -/
def quk (l : List UInt8) (k : Nat) : List UInt8 := 34 :: (l.take k).flatMap qot
theorem quk_zero (l : List UInt8) : quk l 0 = [34] := by unfold quk; simp
theorem quk_more (s : ByteArray) {k : Nat} (h : k < s.size) : quk s.data.toList (k + 1) = quk s.data.toList k ++ qot s[k] := by
  unfold quk; rw [take_snoc s k h, List.flatMap_append]; simp
theorem quk_all {l : List UInt8} {k : Nat} (h : k = l.length) : quk l k ++ [34] = quo l := by unfold quk quo; subst h; simp
theorem qot_len (c : UInt8) : (qot c).length ≤ 2 := by unfold qot; split <;> simp
theorem flat_len (l : List UInt8) : (l.flatMap qot).length ≤ 2 * l.length := by
  induction l with
  | nil => simp
  | cons a r ih => rw [List.flatMap_cons, List.length_append, List.length_cons]; have := qot_len a; omega
theorem quk_len (l : List UInt8) (k : Nat) : (quk l k).length ≤ 2 * k + 1 := by
  unfold quk; rw [List.length_cons]; have := flat_len (l.take k); have := List.length_take_le k l; omega
theorem qot_yes {c : UInt8} (h : c = 34 ∨ c = 92) : qot c = [92, c] := by unfold qot; rw [if_pos (by rcases h with h | h <;> simp [h])]
theorem qot_no {c : UInt8} (h : ¬ (c = 34 ∨ c = 92)) : qot c = [c] := by unfold qot; rw [if_neg (by simpa using h)]
theorem two_own {B : Nat} {a w w1 w2 : World} {v v1 v2 : Value} {l : List UInt8} {c d : UInt8} {o o' : Obj} (hown : Own w B v l) (hb : Below a.heap.size a w) (hB : a.heap.size ≤ B)
    (h1 : w1.ownsRow B 5 1 v1 (l.length + 1) (bvs l ++ [bvl c])) (hg1 : (w.alloc o).grownBy w1 v.ownBlock)
    (h2 : w2.ownsRow B 5 1 v2 (l.length + 1 + 1) (bvs l ++ [bvl c] ++ [bvl d])) (hg2 : (w1.alloc o').grownBy w2 v1.ownBlock) :
    Own w2 B v2 (l ++ [c, d]) ∧ Below a.heap.size a w2 := by
  have R1 := push_own hown hb hB h1 hg1
  have R2 := push_own (c := d) R1.1 R1.2 hB (by rw [List.length_append, bvs_more]; exact h2) hg2
  rw [List.append_assoc] at R2
  exact R2

end Go.Proofs.YtobhdfkhfmpdlaaDoor.Tx

/-
  PLAIN FACTS on the texts of directives.
-/
namespace Go.Proofs.YtobhdfkhfmpdlaaDoor.Dir
open Go Go.RowKit
set_option linter.unusedVariables false
set_option maxRecDepth 1000000

def vtx (v : List UInt8) : List UInt8 := if Tx.token v then v else Tx.quo v
def dtx (d : T) : List UInt8 := if d.2.2 then d.1 ++ [61] ++ vtx d.2.1 else d.1
def dtxs (l : List T) : List (List UInt8) := l.map dtx
def fmt (l : List T) : List UInt8 := Tx.join (dtxs l)
theorem quo_len (l : List UInt8) : (Tx.quo l).length ≤ 2 * l.length + 2 := by
  unfold Tx.quo; have := Tx.flat_len l; simp only [List.length_cons, List.length_append, List.length_nil]; omega
theorem vtx_len (v : List UInt8) : (vtx v).length ≤ 2 * v.length + 2 := by
  unfold vtx; have := quo_len v; split <;> omega
theorem dtx_len (d : T) : (dtx d).length ≤ 2 * (d.1.length + d.2.1.length) + 3 := by
  unfold dtx; have := vtx_len d.2.1
  split
  · simp only [List.length_append, List.length_cons, List.length_nil]; omega
  · omega
theorem dtxs_len (l : List T) : (dtxs l).length = l.length := by unfold dtxs; simp
theorem dtxs_total (l : List T) : Strs.total (dtxs l) ≤ 4 * total l := by
  unfold Strs.total total Rec.total dtxs
  rw [List.length_map, List.map_map]
  have : (l.map ((fun x => x.length) ∘ dtx)).sum ≤ 2 * (l.map wt).sum + 3 * l.length := by
    induction l with
    | nil => simp
    | cons a r ih =>
      have h1 := dtx_len a
      simp only [List.map_cons, List.sum_cons, List.length_cons, Function.comp]
      have h2 : wt a = a.1.length + a.2.1.length := rfl
      omega
  omega
theorem dtxs_more {l : List T} {k : Nat} (h : k < l.length) : dtxs (l.take (k + 1)) = dtxs (l.take k) ++ [dtx (l.getD k nov)] := by
  unfold dtxs
  rw [List.take_succ_eq_append_getElem h, List.map_append, show l.getD k nov = l[k] by simp [List.getD, h]]; rfl
theorem mem_le {l : List T} {d : T} (h : d ∈ l) : d.1.length + d.2.1.length ≤ total l := by
  unfold total Rec.total
  induction l with
  | nil => cases h
  | cons a r ih =>
    have h2 : wt a = a.1.length + a.2.1.length := rfl
    rcases List.mem_cons.1 h with rfl | h
    · simp only [List.map_cons, List.sum_cons, List.length_cons]; omega
    · have := ih h; simp only [List.map_cons, List.sum_cons, List.length_cons]; omega
theorem at_le {l : List T} {k : Nat} (h : k < l.length) : (l.getD k nov).1.length + (l.getD k nov).2.1.length ≤ total l := mem_le (Rec.getD_mem h)
def Txt (t : List UInt8) (w : World) (e : Ending) (w' : World) : Prop := e = .returned (.string ⟨t.toArray⟩) ∧ Below w.heap.size w w'
theorem ret_txt {a b : List UInt8} (h : a = b) : Ending.returned (.string ⟨a.toArray⟩) = .returned (.string ⟨b.toArray⟩) := by rw [h]
theorem dtx_no {x y : List UInt8} : dtx (x, y, false) = x := rfl
theorem dtx_tok {x y : List UInt8} (h : Tx.token y = true) : dtx (x, y, true) = x ++ [61] ++ y := by unfold dtx vtx; simp [h]
theorem dtx_quo {x y : List UInt8} (h : Tx.token y = false) : dtx (x, y, true) = x ++ [61] ++ Tx.quo y := by unfold dtx vtx; simp [h]
end Go.Proofs.YtobhdfkhfmpdlaaDoor.Dir

/-
  CONTRACTS of FindDirective and HasDirective, the model's and the program's: the index of the first directive with a name; nothing that was there before is changed.
-/
namespace Go.Proofs.YtobhdfkhfmpdlaaDoor.Dir
open Go Go.RowKit
set_option linter.unusedVariables false
set_option maxRecDepth 1000000

/-- How many directives stand in front of the first with this name. -/
def fnd (n : List UInt8) (l : List T) : Nat := l.findIdx (fun d => d.1 == n)
def at1 (n : List UInt8) (l : List T) : Int := if fnd n l < l.length then (fnd n l : Int) else -1
theorem fnd_le (n : List UInt8) (l : List T) : fnd n l ≤ l.length := List.findIdx_le_length
theorem fnd_hit {n : List UInt8} {l : List T} {k : Nat} (hk : k ≤ fnd n l) (h : k < l.length) (e : (l.getD k nov).1 = n) : at1 n l = (k : Int) := by
  have hg : l.getD k nov = l[k] := by simp [List.getD, h]
  have h1 : fnd n l ≤ k := by
    rcases Nat.lt_or_ge k (fnd n l) with hlt | hge
    · have := List.not_of_lt_findIdx (p := fun d : T => d.1 == n) (xs := l) hlt
      rw [hg] at e
      simp [e] at this
    · exact hge
  have : fnd n l = k := by omega
  unfold at1; rw [this, if_pos h]
theorem fnd_miss {n : List UInt8} {l : List T} {k : Nat} (hk : k ≤ fnd n l) (h : k < l.length) (e : (l.getD k nov).1 ≠ n) : k + 1 ≤ fnd n l := by
  have hg : l.getD k nov = l[k] := by simp [List.getD, h]
  rcases Nat.lt_or_ge k (fnd n l) with hlt | hge
  · exact hlt
  · have hkk : fnd n l = k := by omega
    exfalso
    apply e
    rw [hg]
    have h2 : fnd n l < l.length := by omega
    have := List.findIdx_getElem (p := fun d : T => d.1 == n) (xs := l) (w := h2)
    have e3 : l[List.findIdx (fun d : T => d.1 == n) l]'h2 = l[k] := by congr 1
    rw [e3] at this
    simpa using this
theorem fnd_end {n : List UInt8} {l : List T} {k : Nat} (hk : k ≤ fnd n l) (h : ¬ k < l.length) : at1 n l = -1 := by
  unfold at1; rw [if_neg (by omega)]
theorem ret_int {a b : Int} (h : a = b) : Ending.returned (.int .i64 a) = .returned (.int .i64 b) := by rw [h]
def FindEnd (n : List UInt8) (l : List T) (w : World) (e : Ending) (w' : World) : Prop := e = .returned (.int .i64 (at1 n l)) ∧ Below w.heap.size w w'

theorem impl_find_nil (a : Option Addr) (cap : Nat) (n : List UInt8) (w : World) : Calls Tryd.prog 37 #[.slice a 0 cap, .string ⟨n.toArray⟩] w (FindEnd n [] w) := by
  go_enter Tryd.func37, Tryd.ntmps37
  go_wp2
  go_loop [9] (fun i => i = .int .i64 0) (fun i => 0)
  case atStart => rfl
  case round =>
    obtain rfl := hrel
    go_wp2
    go_ret
    exact ⟨rfl, Below.refl _ _⟩

set_option maxHeartbeats 1000000 in
theorem impl_find_some (b off cap : Nat) (l : List T) (n : List UInt8) (w : World) (hc : At w b off l) (h0 : 0 < l.length) (hl : l.length ≤ 4194304) :
    Calls Tryd.prog 37 #[.slice (some ⟨b, off, none⟩) l.length cap, .string ⟨n.toArray⟩] w (FindEnd n l w) := by
  have HC := Lib.hid hc
  have HBL := Lib.hid (at_lt hc h0)
  clear hc
  go_enter Tryd.func37, Tryd.ntmps37
  go_wp2
  go_loopw [9] (fun i wr => ∃ k : Nat, k ≤ l.length ∧ i = .int .i64 (k : Int) ∧ Hid (k ≤ fnd n l) ∧ Below w.heap.size w wr) (fun i _ => l.length - (intOf i).toNat)
  case atStart => exact ⟨0, Nat.zero_le _, rfl, Lib.hid (Nat.zero_le _), Below.refl _ _⟩
  case round =>
    obtain ⟨k, hk, rfl, HF, hb⟩ := hrel
    have HB := Lib.hid hb
    by_cases hlt : k < l.length
    · obtain ⟨c0, c1, c2⟩ := at_cells (at_below HC.out hb HBL.out) hlt
      have HBA : Hid (∀ a : Array Value, Below w.heap.size w (wr.alloc (.cells a 29))) := Lib.hid (fun a => HB.out.alloc HB.out.size _)
      clear hb
      by_cases e : (l.getD k nov).1 = n
      · have HE := Lib.hid (fnd_hit HF.out hlt e)
        rw [e] at c0
        generalize (l.getD k nov).2 = y at c1 c2
        obtain ⟨y, z⟩ := y
        dsimp only at c1 c2
        clear e
        go_wp2
        go_ret
        exact ⟨(ret_int HE.out).symm, HBA.out _⟩
      · have HM := Lib.hid (fnd_miss HF.out hlt e)
        generalize l.getD k nov = x at c0 c1 c2 e
        obtain ⟨x, y, z⟩ := x
        dsimp only at c0 c1 c2 e
        have hq : (x == n) = false := by simpa using e
        clear e
        go_wp2
        go_roundw
        case rel => exact ⟨k + 1, by omega, by go_num, HM, HBA.out _⟩
        case measure => simp [intOf]; omega
    · have HE := Lib.hid (fnd_end HF.out hlt)
      clear hb
      go_wp2
      go_ret
      exact ⟨(ret_int HE.out).symm, HB.out⟩

theorem impl_find (v : Value) (B : Nat) (l : List T) (n : List UInt8) (w : World) (h : Holds w B v l) (hl : l.length ≤ 4194304) : Calls Tryd.prog 37 #[v, .string ⟨n.toArray⟩] w (FindEnd n l w) := by
  rcases h with ⟨rfl, a, cap, rfl⟩ | ⟨h0, b, off, cap, rfl, _, _, hc⟩
  · exact impl_find_nil a cap n w
  · exact impl_find_some b off cap l n w hc h0 hl

/-! Has. -/
theorem at1_range (n : List UInt8) (l : List T) : -1 ≤ at1 n l ∧ at1 n l ≤ l.length := by
  unfold at1; have := fnd_le n l; split <;> omega
def HasEnd (n : List UInt8) (l : List T) (w : World) (e : Ending) (w' : World) : Prop := e = .returned (.bool (decide (0 ≤ at1 n l))) ∧ Below w.heap.size w w'
theorem impl_has (v : Value) (B : Nat) (l : List T) (n : List UInt8) (w : World) (h : Holds w B v l) (hl : l.length ≤ 4194304) : Calls Tryd.prog 10 #[v, .string ⟨n.toArray⟩] w (HasEnd n l w) := by
  obtain ⟨a, cap, rfl⟩ : ∃ a cap, v = .slice a l.length cap := by
    rcases h with ⟨rfl, a, cap, rfl⟩ | ⟨_, b, off, cap, rfl, _, _, _⟩
    · exact ⟨a, cap, rfl⟩
    · exact ⟨_, cap, rfl⟩
  have HH := Lib.hid (impl_find _ B l n w h hl)
  clear h
  unfold FindEnd at HH
  unfold HasEnd
  generalize at1 n l = x at HH ⊢
  go_enter Tryd.func10, Tryd.ntmps10
  go_wp2_with (fail)
  go_at_call 37
  refine HH.out.mono ?_
  rintro e w1 ⟨rfl, hb⟩
  have HB := Lib.hid hb
  clear hb
  go_wp2
  go_ret
  exact ⟨by simp, HB.out⟩
end Go.Proofs.YtobhdfkhfmpdlaaDoor.Dir

/-
  PLAIN FACTS on the seconds that a directive has as its value.
-/
namespace Go.Proofs.YtobhdfkhfmpdlaaDoor.Dir
open Go Go.RowKit
set_option linter.unusedVariables false
set_option maxRecDepth 1000000

def dg (c : UInt8) : Bool := decide (48 ≤ c.toNat ∧ c.toNat ≤ 57)
def digs : List UInt8 := [48, 49, 50, 51, 52, 53, 54, 55, 56, 57]
theorem dg_digs (c : UInt8) : digs.contains c = dg c := by
  have h : ∀ n : Fin 256, digs.contains (UInt8.ofNat n.1) = dg (UInt8.ofNat n.1) := by decide +kernel
  have e : UInt8.ofNat c.toNat = c := by simp
  have := h ⟨c.toNat, c.toNat_lt⟩
  rw [e] at this; exact this
def sst (n : Int) (c : UInt8) : Int := min (10 * n + ((c.toNat : Int) - 48)) 2147483648
def srun (l : List UInt8) : Int := l.foldl sst 0
def secs (l : List UInt8) : Int := if l.all dg then srun l else 0
theorem srun_nil : srun [] = 0 := rfl
theorem srun_more (l : List UInt8) (c : UInt8) : srun (l ++ [c]) = sst (srun l) c := by unfold srun; rw [List.foldl_append]; rfl
theorem sst_bd {n : Int} {c : UInt8} (hc : dg c = true) (h0 : 0 ≤ n) : 0 ≤ sst n c ∧ sst n c ≤ 2147483648 := by
  have : 48 ≤ c.toNat ∧ c.toNat ≤ 57 := by simpa [dg] using hc
  unfold sst; omega
theorem srun_bd (l : List UInt8) (h : l.all dg = true) : 0 ≤ srun l ∧ srun l ≤ 2147483648 := by
  rcases List.eq_nil_or_concat l with rfl | ⟨t, c, rfl⟩
  · decide
  · have ht : ∀ k, (t.take k).all dg = true → 0 ≤ srun (t.take k) := by
      intro k
      induction k with
      | zero => intro _; simp [srun]
      | succ k ih =>
        intro hk
        rcases Nat.lt_or_ge k t.length with hlt | hge
        · rw [List.take_succ_eq_append_getElem hlt] at hk ⊢
          rw [List.all_append] at hk
          simp only [Bool.and_eq_true] at hk
          rw [srun_more]
          exact (sst_bd (by simpa using hk.2) (ih hk.1)).1
        · rw [List.take_of_length_le (by omega)] at hk ⊢
          have := ih (by rw [List.take_of_length_le hge]; exact hk)
          rw [List.take_of_length_le hge] at this; exact this
    rw [List.concat_eq_append] at h ⊢
    rw [List.all_append] at h
    simp only [Bool.and_eq_true] at h
    rw [srun_more]
    refine sst_bd (by simpa using h.2) ?_
    have := ht t.length (by rw [List.take_length]; exact h.1)
    rw [List.take_length] at this; exact this
theorem secs_bd (l : List UInt8) : 0 ≤ secs l ∧ secs l ≤ 2147483648 := by
  unfold secs; split
  · rename_i h; exact srun_bd l h
  · decide
theorem secs_all {l : List UInt8} (h : l.all dg = true) : secs l = srun l := by unfold secs; rw [if_pos h]
theorem secs_no {l : List UInt8} (h : l.all dg = false) : secs l = 0 := by unfold secs; simp [h]
/-- strings.Trim at the ten digits leaves nothing just of a text of digits. -/
theorem dw_nil (p : UInt8 → Bool) (l : List UInt8) : l.dropWhile p = [] ↔ l.all p = true := by
  induction l with
  | nil => simp
  | cons c r ih =>
    rcases hc : p c with _ | _
    · rw [List.dropWhile_cons_of_neg (by simp [hc])]; simp [hc]
    · rw [List.dropWhile_cons_of_pos hc]; simp [hc, ih]
theorem trim_digs (l : List UInt8) : Lib.trimS l digs = [] ↔ l.all dg = true := by
  unfold Lib.trimS Lib.trimLeftS Lib.trimRightS
  rw [show (fun x : UInt8 => digs.contains x) = dg from funext dg_digs]
  rw [dw_nil]
  constructor
  · intro h
    by_cases h2 : l.reverse.dropWhile dg = []
    · have := (dw_nil dg l.reverse).1 h2
      rw [List.all_reverse] at this; exact this
    · exfalso
      obtain ⟨c, t, hct⟩ := List.exists_cons_of_ne_nil h2
      have h3 : dg c = false := by
        have := List.head?_dropWhile_not dg l.reverse
        rw [hct] at this
        simpa using this
      rw [hct, List.reverse_cons, List.all_append] at h
      simp [h3] at h
  · intro h
    have h2 : l.reverse.dropWhile dg = [] := (dw_nil dg l.reverse).2 (by rw [List.all_reverse]; exact h)
    rw [h2]; rfl
theorem take_dg {s : ByteArray} {k : Nat} (h : k < s.size) (ha : (s.data.toList.take k).all dg = true) (hc : dg s[k] = true) : (s.data.toList.take (k + 1)).all dg = true := by
  rw [Tx.take_snoc s k h, List.all_append, ha]; simp [hc]
theorem not_dg {s : ByteArray} {k : Nat} (h : k < s.size) (hc : dg s[k] = false) : s.data.toList.all dg = false := by
  rw [Bool.eq_false_iff]; intro ha
  have hm : s[k] ∈ s.data.toList := by
    have : s[k] = s.data.toList[k]'(by rw [Array.length_toList]; exact h) := rfl
    rw [this]; exact List.getElem_mem _
  rw [List.all_eq_true.1 ha _ hm] at hc; cases hc
theorem at1_cases (n : List UInt8) (l : List T) : at1 n l = -1 ∨ ∃ k : Nat, k < l.length ∧ at1 n l = (k : Int) := by
  unfold at1; split
  · exact Or.inr ⟨_, by assumption, rfl⟩
  · exact Or.inl rfl
/-- What SecondsOf answers. -/
def sof (n : List UInt8) (l : List T) : Int × Bool := if at1 n l < 0 then (0, false) else (secs (l.getD (at1 n l).toNat nov).2.1, true)
theorem sof_no {n : List UInt8} {l : List T} (h : at1 n l = -1) : sof n l = (0, false) := by unfold sof; rw [h]; rfl
theorem sof_at {n : List UInt8} {l : List T} {k : Nat} (h : at1 n l = (k : Int)) : sof n l = (secs (l.getD k nov).2.1, true) := by unfold sof; rw [h, if_neg (by omega)]; rfl
def SecEnd (n : List UInt8) (l : List T) (w : World) (e : Ending) (w' : World) : Prop := e = .returned (.tuple #[.int .i64 (sof n l).1, .bool (sof n l).2]) ∧ Below w.heap.size w w'
end Go.Proofs.YtobhdfkhfmpdlaaDoor.Dir
