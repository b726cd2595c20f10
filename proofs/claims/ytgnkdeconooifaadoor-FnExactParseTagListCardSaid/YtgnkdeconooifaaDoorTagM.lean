/-
  PLAIN FACTS on the texts of entity tags: which bytes may stand in one, how a tag is written, how it is read.
-/
import Derived.Test.YtgnkdeconooifaaDoorTxMath
import Derived.Test.YtgnkdeconooifaaDoorTokList
import Derived.Test.YtgnkdeconooifaaDoorTgs
import Derived.Lib.Strings
namespace Go.Proofs.YtgnkdeconooifaaDoor.Tgs
open Go Go.RowKit
set_option linter.unusedVariables false

def tgc (c : UInt8) : Bool := decide (33 ≤ c.toNat ∧ c.toNat ≤ 126) && !(c == 34)
def okt (l : List UInt8) : Bool := l.all tgc && decide (l.length ≤ 40)
theorem tgc_no {c : UInt8} (h : tgc c = false) : ((c.toNat : Int) < 33 ∨ 126 < (c.toNat : Int)) ∨ ((33 ≤ (c.toNat : Int) ∧ (c.toNat : Int) ≤ 126) ∧ c = 34) := by
  unfold tgc at h
  by_cases a : 33 ≤ c.toNat ∧ c.toNat ≤ 126
  · right
    refine ⟨by omega, ?_⟩
    simpa [a] using h
  · left; omega
theorem tgc_yes {c : UInt8} (h : tgc c = true) : (33 ≤ (c.toNat : Int) ∧ (c.toNat : Int) ≤ 126) ∧ (c.toNat : Int) ≠ 34 := by
  unfold tgc at h
  rw [Bool.and_eq_true] at h
  have h1 := of_decide_eq_true h.1
  refine ⟨by omega, fun e => ?_⟩
  have : c = 34 := UInt8.toNat_inj.1 (by show c.toNat = 34; omega)
  rw [this] at h; simp at h
theorem list_len (s : ByteArray) : s.data.toList.length = s.size := by rw [Array.length_toList]; rfl
theorem tgc_more {s : ByteArray} {k : Nat} (h : k < s.size) (ha : (s.data.toList.take k).all tgc = true) (hc : tgc s[k] = true) : (s.data.toList.take (k + 1)).all tgc = true := by
  rw [Tx.take_snoc s k h, List.all_append, ha, List.all_cons, hc]; rfl
theorem okt_bad {s : ByteArray} {k : Nat} (h : k < s.size) (hc : tgc s[k] = false) : okt s.data.toList = false := by
  unfold okt
  have : s.data.toList.all tgc = false := by
    rw [Bool.eq_false_iff]
    intro ha
    have hm : s[k] ∈ s.data.toList := by
      rw [← List.take_append_drop k s.data.toList, Tx.drop_cons s k h]; simp
    rw [List.all_eq_true] at ha
    have := ha _ hm
    rw [hc] at this; cases this
  rw [this, Bool.false_and]
theorem okt_all {s : ByteArray} {k : Nat} (h : k = s.size) (ha : (s.data.toList.take k).all tgc = true) : okt s.data.toList = decide ((s.size : Int) ≤ 40) := by
  have e : s.data.toList.take k = s.data.toList := List.take_of_length_le (by rw [list_len]; omega)
  rw [e] at ha
  unfold okt
  rw [ha, Bool.true_and, list_len, Bool.eq_iff_iff]; simp; omega
theorem okt_long {s : ByteArray} (h : 40 < s.size) : okt s.data.toList = false := by
  unfold okt
  rw [list_len]
  have : decide (s.size ≤ 40) = false := by simp; omega
  rw [this, Bool.and_false]
/-- How a tag is written. -/
def ftag (f : T) : List UInt8 := if okt f.2 then (if f.1 then [87, 47, 34] ++ f.2 ++ [34] else [34] ++ f.2 ++ [34]) else []
theorem ftag_no {x : Bool} {y : List UInt8} (h : okt y = false) : ftag (x, y) = [] := by unfold ftag; simp [h]
theorem ftag_weak {y : List UInt8} (h : okt y = true) : ftag (true, y) = [87, 47, 34] ++ y ++ [34] := by unfold ftag; simp [h]
theorem ftag_strong {y : List UInt8} (h : okt y = true) : ftag (false, y) = [34] ++ y ++ [34] := by unfold ftag; simp [h]
/-- How a tag is read. -/
def ptag (l : List UInt8) : T × Bool :=
  if Lib.hasPrefix (Lib.trimPrefix l [87, 47]) [34] && (Lib.hasSuffix (Lib.trimPrefix (Lib.trimPrefix l [87, 47]) [34]) [34] && okt (Lib.trimSuffix (Lib.trimPrefix (Lib.trimPrefix l [87, 47]) [34]) [34]))
  then ((Lib.hasPrefix l [87, 47], Lib.trimSuffix (Lib.trimPrefix (Lib.trimPrefix l [87, 47]) [34]) [34]), true) else ((false, []), false)
/-- What stands between two quotes. -/
def inner (r : List UInt8) : Bool × List UInt8 := (decide (2 ≤ r.length) && (r.head? == some 34 && r.getLast? == some 34), (r.drop 1).take (r.length - 2))
theorem inner_lib (r : List UInt8) : (Lib.hasPrefix r [34] && Lib.hasSuffix (Lib.trimPrefix r [34]) [34]) = (inner r).1 ∧ ((inner r).1 = true → Lib.trimSuffix (Lib.trimPrefix r [34]) [34] = (inner r).2) := by
  cases r with
  | nil => exact ⟨by decide, by intro h; exact absurd h (by decide)⟩
  | cons a t =>
    by_cases ha : a = 34
    · subst ha
      have hp : Lib.hasPrefix (34 :: t) [34] = true := by simp [Lib.hasPrefix, List.isPrefixOf]
      have ht : Lib.trimPrefix (34 :: t) [34] = t := by unfold Lib.trimPrefix; rw [if_pos hp]; rfl
      rw [hp, ht, Bool.true_and]
      rcases List.eq_nil_or_concat t with rfl | ⟨m, b, rfl⟩
      · exact ⟨by decide, by intro h; exact absurd h (by decide)⟩
      · simp only [List.concat_eq_append]
        have hs : Lib.hasSuffix (m ++ [b]) [34] = (b == 34) := by
          rw [Bool.eq_iff_iff]
          unfold Lib.hasSuffix
          rw [List.isSuffixOf_iff_suffix]
          constructor
          · rintro ⟨q, hq⟩
            have := List.append_inj_right' hq.symm rfl
            simp at this; simp [this]
          · intro h
            have : b = 34 := by simpa using h
            subst this; exact ⟨m, rfl⟩
        have hi : (inner (34 :: (m ++ [b]))).1 = (b == 34) := by
          unfold inner
          have : (34 :: (m ++ [b]) : List UInt8).getLast? = some b := by
            rw [show (34 :: (m ++ [b]) : List UInt8) = (34 :: m) ++ [b] by rfl, List.getLast?_append]; rfl
          simp only [this]
          simp
        refine ⟨by rw [hs, hi], fun h => ?_⟩
        rw [hi] at h
        have : b = 34 := by simpa using h
        subst this
        unfold Lib.trimSuffix
        rw [if_pos (by rw [hs]; rfl)]
        unfold inner
        simp
    · have hp : Lib.hasPrefix (a :: t) [34] = false := by
        have : (34 == a) = false := by rw [beq_eq_false_iff_ne]; exact fun e => ha e.symm
        simp [Lib.hasPrefix, List.isPrefixOf, this]
      rw [hp, Bool.false_and]
      have hi : (inner (a :: t)).1 = false := by
        unfold inner
        have : ((a :: t).head? == some 34) = false := by simp [ha]
        rw [this, Bool.false_and, Bool.and_false]
      exact ⟨hi.symm, fun h => by rw [hi] at h; cases h⟩
theorem ptag_inner (l : List UInt8) : ptag l = if (inner (Lib.trimPrefix l [87, 47])).1 && okt (inner (Lib.trimPrefix l [87, 47])).2 then ((Lib.hasPrefix l [87, 47], (inner (Lib.trimPrefix l [87, 47])).2), true) else ((false, []), false) := by
  unfold ptag
  obtain ⟨h1, h2⟩ := inner_lib (Lib.trimPrefix l [87, 47])
  rw [← Bool.and_assoc, h1]
  by_cases h : (inner (Lib.trimPrefix l [87, 47])).1 = true
  · rw [h2 h]
  · have : (inner (Lib.trimPrefix l [87, 47])).1 = false := by simpa using h
    rw [this, Bool.false_and, Bool.false_and]; rfl
theorem prefix_at (l : List UInt8) : Lib.hasPrefix l [87, 47] = (decide (2 ≤ l.length) && (l.take 2 == [87, 47])) := (Lib.hasPrefix_of_take l [87, 47]).symm
/-- The tag of a text, by what stands where. -/
theorem ptag_weak {l : List UInt8} (h2 : 2 ≤ l.length) (h : l.take 2 = [87, 47]) : ptag l = if (inner (l.drop 2)).1 && okt (inner (l.drop 2)).2 then ((true, (inner (l.drop 2)).2), true) else ((false, []), false) := by
  have hp : Lib.hasPrefix l [87, 47] = true := by rw [prefix_at, h]; simp [h2]
  have ht : Lib.trimPrefix l [87, 47] = l.drop 2 := by unfold Lib.trimPrefix; rw [if_pos hp]; rfl
  rw [ptag_inner, ht, hp]
theorem ptag_strong {l : List UInt8} (h : ¬ (2 ≤ l.length ∧ l.take 2 = [87, 47])) : ptag l = if (inner l).1 && okt (inner l).2 then ((false, (inner l).2), true) else ((false, []), false) := by
  have hp : Lib.hasPrefix l [87, 47] = false := by
    rw [prefix_at]
    by_cases h2 : 2 ≤ l.length
    · have h3 : l.take 2 ≠ [87, 47] := fun e => h ⟨h2, e⟩
      have : (l.take 2 == [87, 47]) = false := by simpa using h3
      rw [this, Bool.and_false]
    · have : decide (2 ≤ l.length) = false := by simpa using h2
      rw [this, Bool.false_and]
  have ht : Lib.trimPrefix l [87, 47] = l := by unfold Lib.trimPrefix; rw [hp]; rfl
  rw [ptag_inner, ht, hp]
end Go.Proofs.YtgnkdeconooifaaDoor.Tgs
