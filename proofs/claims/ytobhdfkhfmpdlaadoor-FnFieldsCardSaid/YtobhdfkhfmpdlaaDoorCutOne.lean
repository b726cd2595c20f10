/-
  CONTRACT of strings.Cut at a separator of one byte: what stands before the first such byte, what stands behind it, and whether there is one; nothing that was there before is changed.
-/
import Derived.Test.YtobhdfkhfmpdlaaDoorTxMath
import Derived.Test.YtobhdfkhfmpdlaaDoorBase
import Derived.Test.YtobhdfkhfmpdlaaDoorShelf
import Derived.Deep.QuietTactic
import Derived.BigQuiet
namespace Go.Proofs.YtobhdfkhfmpdlaaDoor.Tx
open Go Go.RowKit
set_option linter.unusedVariables false
set_option maxRecDepth 1000000

theorem indexByte_idx (c : UInt8) (l : List UInt8) : Lib.indexByte l c = if idx c l < l.length then (idx c l : Int) else -1 := by
  induction l with
  | nil => simp [Lib.indexByte, idx]
  | cons a r ih =>
    unfold Lib.indexByte idx
    by_cases h : a == c
    · rw [if_pos h, if_pos h, if_pos (by simp)]; rfl
    · rw [if_neg h, if_neg h, ih]
      by_cases hl : idx c r < r.length
      · have hn : ((idx c r : Int) == -1) = false := by rw [beq_eq_false_iff_ne]; omega
        rw [if_pos hl, hn, if_neg (by simp), if_pos (by simp; omega)]; omega
      · rw [if_neg hl, if_pos (by decide), if_neg (by simp; omega)]
/-- How a cut ends. -/
def CutEnd (c : UInt8) (l : List UInt8) (w : World) (e : Ending) (w' : World) : Prop :=
  e = .returned (.tuple #[.string ⟨(cutAt c l).1.toArray⟩, .string ⟨(cutAt c l).2.1.toArray⟩, .bool (cutAt c l).2.2]) ∧ Below w.heap.size w w'
theorem below_drewN' {B : Nat} {a w : World} (h : Below B a w) (n : Nat) : Below B a (w.drewN n) := ⟨h.os, h.tape, h.output, h.size, h.block⟩
theorem ext_eq (s : ByteArray) (a b : Nat) : s.extract a b = ⟨((s.data.toList.drop a).take (b - a)).toArray⟩ := by
  apply ByteArray.ext
  rw [ByteArray.data_extract]
  apply Array.ext'
  simp
theorem cut_hit {s : ByteArray} {c : UInt8} {w w' : World} {i : Nat} (hi : i = idx c s.data.toList) (h : i < s.size) (hb : Below w.heap.size w w') :
    CutEnd c s.data.toList w (.returned (.tuple #[.string (s.extract 0 i), .string (s.extract (i + 1) s.size), .bool true])) w' := by
  have hl : s.data.toList.length = s.size := by rw [Array.length_toList]; rfl
  have e : cutAt c s.data.toList = (s.data.toList.take i, s.data.toList.drop (i + 1), true) := by
    unfold cutAt; rw [← hi, hl, if_pos h]
  unfold CutEnd
  rw [e, ext_eq, ext_eq]
  refine ⟨?_, hb⟩
  have h2 : (s.data.toList.drop (i + 1)).take (s.size - (i + 1)) = s.data.toList.drop (i + 1) := List.take_of_length_le (by rw [List.length_drop, hl]; omega)
  rw [h2, List.drop_zero, Nat.sub_zero]
theorem cut_miss {s : ByteArray} {c : UInt8} {w w' : World} (h : ¬ idx c s.data.toList < s.size) (hb : Below w.heap.size w w') :
    CutEnd c s.data.toList w (.returned (.tuple #[.string s, .string ⟨#[]⟩, .bool false])) w' := by
  have hl : s.data.toList.length = s.size := by rw [Array.length_toList]; rfl
  have e : cutAt c s.data.toList = (s.data.toList, [], false) := by
    unfold cutAt; rw [hl, if_neg h]
  unfold CutEnd
  rw [e]
  exact ⟨by simp, hb⟩

set_option maxHeartbeats 1000000 in
theorem lite_cut (s : ByteArray) (c : UInt8) (w : World) (hs : s.size ≤ 9223372036854775806) :
    Calls Tryd.prog 78 #[.string s, .string ⟨#[c]⟩] w (CutEnd c s.data.toList w) := by
  have hl : s.data.toList.length = s.size := by rw [Array.length_toList]; rfl
  have c1 := Tryd.stringslite_Index_one s c w
  rw [indexByte_idx, hl] at c1
  by_cases h : idx c s.data.toList < s.size
  · rw [if_pos h] at c1
    obtain ⟨i, hi⟩ : ∃ i, i = idx c s.data.toList := ⟨_, rfl⟩
    rw [← hi] at c1 h
    have HI := Lib.hid hi
    clear hi hl
    go_enter Tryd.func78, Tryd.ntmps78
    go_wp2_with (go_at_call 94; refine c1.mono ?_; rintro e w' ⟨rfl, rfl⟩)
    go_quiet (fail)
    go_wp2
    go_ret3
    exact cut_hit HI.out h (below_drewN' (Below.refl _ _) _)
  · rw [if_neg h] at c1
    have H := Lib.hid h
    clear h hl
    go_enter Tryd.func78, Tryd.ntmps78
    go_wp2_with (go_at_call 94; refine c1.mono ?_; rintro e w' ⟨rfl, rfl⟩)
    go_ret3
    exact cut_miss H.out (Below.refl _ _)

theorem cut_any (s : ByteArray) (c : UInt8) (w : World) (hs : s.size ≤ 9223372036854775806) :
    Calls Tryd.prog 51 #[.string s, .string ⟨#[c]⟩] w (CutEnd c s.data.toList w) := by
  have c1 := lite_cut s c w hs
  go_enter Tryd.func51, Tryd.ntmps51
  go_wp2_with (go_at_call 78; refine c1.mono ?_; rintro e w' ⟨rfl, hb⟩)
  go_ret3
  exact ⟨rfl, hb⟩
end Go.Proofs.YtobhdfkhfmpdlaaDoor.Tx
