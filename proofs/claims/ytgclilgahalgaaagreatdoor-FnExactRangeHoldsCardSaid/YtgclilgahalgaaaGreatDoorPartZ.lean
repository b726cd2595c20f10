/-
  CONTRACTS AND PLAIN FACTS, several texts in one; each says in its own words what it proves.
-/
import Derived.Test.YtgclilgahalgaaaGreatDoorPartE
import Derived.Test.YtgclilgahalgaaaGreatDoorPartY
import Derived.Lib.Strings
import Derived.Test.YtgclilgahalgaaaGreatDoorPartJ
import Derived.Test.YtgclilgahalgaaaGreatDoorPartG
import Derived.LoopTactic
import Derived.Outline
import Derived.Test.YtgclilgahalgaaaGreatDoorPartH
import Derived.Laws.DeepStrings4

/-
  PLAIN FACTS on the texts of entity tags: which bytes may stand in one, how a tag is written, how it is read.
-/
namespace Go.Proofs.YtgclilgahalgaaaGreatDoor.Tgs
open Go Go.RowKit
set_option linter.unusedVariables false
set_option maxRecDepth 1000000

def tgc (c : UInt8) : Bool := decide (33 ≤ c.toNat ∧ c.toNat ≤ 126) && !(c == 34)
def okt (l : List UInt8) : Bool := l.all tgc && decide (l.length ≤ 40)
theorem tgc_no {c : UInt8} (h : tgc c = false) : ((c.toNat : Int) < 33 ∨ 126 < (c.toNat : Int)) ∨ ((33 ≤ (c.toNat : Int) ∧ (c.toNat : Int) ≤ 126) ∧ c = 34) := by
  unfold tgc at h
  by_cases a : 33 ≤ c.toNat ∧ c.toNat ≤ 126
  · right
    refine ⟨by omega, ?_⟩
    simpa [a] using h
  · left; omega
theorem tgc_yes {c : UInt8} (h : tgc c = true) : (33 ≤ (c.toNat : Int) ∧ (c.toNat : Int) ≤ 126) ∧ (c.toNat : Int) ≠ 34 := by
  unfold tgc at h
  rw [Bool.and_eq_true] at h
  have h1 := of_decide_eq_true h.1
  refine ⟨by omega, fun e => ?_⟩
  have : c = 34 := UInt8.toNat_inj.1 (by show c.toNat = 34; omega)
  rw [this] at h; simp at h
theorem list_len (s : ByteArray) : s.data.toList.length = s.size := by rw [Array.length_toList]; rfl
theorem tgc_more {s : ByteArray} {k : Nat} (h : k < s.size) (ha : (s.data.toList.take k).all tgc = true) (hc : tgc s[k] = true) : (s.data.toList.take (k + 1)).all tgc = true := by
  rw [Tx.take_snoc s k h, List.all_append, ha, List.all_cons, hc]; rfl
theorem okt_bad {s : ByteArray} {k : Nat} (h : k < s.size) (hc : tgc s[k] = false) : okt s.data.toList = false := by
  unfold okt
  have : s.data.toList.all tgc = false := by
    rw [Bool.eq_false_iff]
    intro ha
    have hm : s[k] ∈ s.data.toList := by
      rw [← List.take_append_drop k s.data.toList, Tx.drop_cons s k h]; simp
    rw [List.all_eq_true] at ha
    have := ha _ hm
    rw [hc] at this; cases this
  rw [this, Bool.false_and]
theorem okt_all {s : ByteArray} {k : Nat} (h : k = s.size) (ha : (s.data.toList.take k).all tgc = true) : okt s.data.toList = decide ((s.size : Int) ≤ 40) := by
  have e : s.data.toList.take k = s.data.toList := List.take_of_length_le (by rw [list_len]; omega)
  rw [e] at ha
  unfold okt
  rw [ha, Bool.true_and, list_len, Bool.eq_iff_iff]; simp; omega
theorem okt_long {s : ByteArray} (h : 40 < s.size) : okt s.data.toList = false := by
  unfold okt
  rw [list_len]
  have : decide (s.size ≤ 40) = false := by simp; omega
  rw [this, Bool.and_false]
/-- How a tag is written. -/
def ftag (f : T) : List UInt8 := if okt f.2 then (if f.1 then [87, 47, 34] ++ f.2 ++ [34] else [34] ++ f.2 ++ [34]) else []
theorem ftag_no {x : Bool} {y : List UInt8} (h : okt y = false) : ftag (x, y) = [] := by unfold ftag; simp [h]
theorem ftag_weak {y : List UInt8} (h : okt y = true) : ftag (true, y) = [87, 47, 34] ++ y ++ [34] := by unfold ftag; simp [h]
theorem ftag_strong {y : List UInt8} (h : okt y = true) : ftag (false, y) = [34] ++ y ++ [34] := by unfold ftag; simp [h]
/-- How a tag is read. -/
def ptag (l : List UInt8) : T × Bool :=
  if Lib.hasPrefix (Lib.trimPrefix l [87, 47]) [34] && (Lib.hasSuffix (Lib.trimPrefix (Lib.trimPrefix l [87, 47]) [34]) [34] && okt (Lib.trimSuffix (Lib.trimPrefix (Lib.trimPrefix l [87, 47]) [34]) [34]))
  then ((Lib.hasPrefix l [87, 47], Lib.trimSuffix (Lib.trimPrefix (Lib.trimPrefix l [87, 47]) [34]) [34]), true) else ((false, []), false)
/-- What stands between two quotes. -/
def inner (r : List UInt8) : Bool × List UInt8 := (decide (2 ≤ r.length) && (r.head? == some 34 && r.getLast? == some 34), (r.drop 1).take (r.length - 2))
theorem inner_lib (r : List UInt8) : (Lib.hasPrefix r [34] && Lib.hasSuffix (Lib.trimPrefix r [34]) [34]) = (inner r).1 ∧ ((inner r).1 = true → Lib.trimSuffix (Lib.trimPrefix r [34]) [34] = (inner r).2) := by
  cases r with
  | nil => exact ⟨by decide, by intro h; exact absurd h (by decide)⟩
  | cons a t =>
    by_cases ha : a = 34
    · subst ha
      have hp : Lib.hasPrefix (34 :: t) [34] = true := by simp [Lib.hasPrefix, List.isPrefixOf]
      have ht : Lib.trimPrefix (34 :: t) [34] = t := by unfold Lib.trimPrefix; rw [if_pos hp]; rfl
      rw [hp, ht, Bool.true_and]
      rcases List.eq_nil_or_concat t with rfl | ⟨m, b, rfl⟩
      · exact ⟨by decide, by intro h; exact absurd h (by decide)⟩
      · simp only [List.concat_eq_append]
        have hs : Lib.hasSuffix (m ++ [b]) [34] = (b == 34) := by
          rw [Bool.eq_iff_iff]
          unfold Lib.hasSuffix
          rw [List.isSuffixOf_iff_suffix]
          constructor
          · rintro ⟨q, hq⟩
            have := List.append_inj_right' hq.symm rfl
            simp at this; simp [this]
          · intro h
            have : b = 34 := by simpa using h
            subst this; exact ⟨m, rfl⟩
        have hi : (inner (34 :: (m ++ [b]))).1 = (b == 34) := by
          unfold inner
          have : (34 :: (m ++ [b]) : List UInt8).getLast? = some b := by
            rw [show (34 :: (m ++ [b]) : List UInt8) = (34 :: m) ++ [b] by rfl, List.getLast?_append]; rfl
          simp only [this]
          simp
        refine ⟨by rw [hs, hi], fun h => ?_⟩
        rw [hi] at h
        have : b = 34 := by simpa using h
        subst this
        unfold Lib.trimSuffix
        rw [if_pos (by rw [hs]; rfl)]
        unfold inner
        simp
    · have hp : Lib.hasPrefix (a :: t) [34] = false := by
        have : (34 == a) = false := by rw [beq_eq_false_iff_ne]; exact fun e => ha e.symm
        simp [Lib.hasPrefix, List.isPrefixOf, this]
      rw [hp, Bool.false_and]
      have hi : (inner (a :: t)).1 = false := by
        unfold inner
        have : ((a :: t).head? == some 34) = false := by simp [ha]
        rw [this, Bool.false_and, Bool.and_false]
      exact ⟨hi.symm, fun h => by rw [hi] at h; cases h⟩
theorem ptag_inner (l : List UInt8) : ptag l = if (inner (Lib.trimPrefix l [87, 47])).1 && okt (inner (Lib.trimPrefix l [87, 47])).2 then ((Lib.hasPrefix l [87, 47], (inner (Lib.trimPrefix l [87, 47])).2), true) else ((false, []), false) := by
  unfold ptag
  obtain ⟨h1, h2⟩ := inner_lib (Lib.trimPrefix l [87, 47])
  rw [← Bool.and_assoc, h1]
  by_cases h : (inner (Lib.trimPrefix l [87, 47])).1 = true
  · rw [h2 h]
  · have : (inner (Lib.trimPrefix l [87, 47])).1 = false := by simpa using h
    rw [this, Bool.false_and, Bool.false_and]; rfl
theorem prefix_at (l : List UInt8) : Lib.hasPrefix l [87, 47] = (decide (2 ≤ l.length) && (l.take 2 == [87, 47])) := (Lib.hasPrefix_of_take l [87, 47]).symm
/-- The tag of a text, by what stands where. -/
theorem ptag_weak {l : List UInt8} (h2 : 2 ≤ l.length) (h : l.take 2 = [87, 47]) : ptag l = if (inner (l.drop 2)).1 && okt (inner (l.drop 2)).2 then ((true, (inner (l.drop 2)).2), true) else ((false, []), false) := by
  have hp : Lib.hasPrefix l [87, 47] = true := by rw [prefix_at, h]; simp [h2]
  have ht : Lib.trimPrefix l [87, 47] = l.drop 2 := by unfold Lib.trimPrefix; rw [if_pos hp]; rfl
  rw [ptag_inner, ht, hp]
theorem ptag_strong {l : List UInt8} (h : ¬ (2 ≤ l.length ∧ l.take 2 = [87, 47])) : ptag l = if (inner l).1 && okt (inner l).2 then ((false, (inner l).2), true) else ((false, []), false) := by
  have hp : Lib.hasPrefix l [87, 47] = false := by
    rw [prefix_at]
    by_cases h2 : 2 ≤ l.length
    · have h3 : l.take 2 ≠ [87, 47] := fun e => h ⟨h2, e⟩
      have : (l.take 2 == [87, 47]) = false := by simpa using h3
      rw [this, Bool.and_false]
    · have : decide (2 ≤ l.length) = false := by simpa using h2
      rw [this, Bool.false_and]
  have ht : Lib.trimPrefix l [87, 47] = l := by unfold Lib.trimPrefix; rw [hp]; rfl
  rw [ptag_inner, ht, hp]
end Go.Proofs.YtgclilgahalgaaaGreatDoor.Tgs

/-
  CONTRACTS of both sides' IsTag, FormatTag, StrongSame and WeakSame; nothing that was there before is changed.
-/
namespace Go.Proofs.YtgclilgahalgaaaGreatDoor.Tgs
open Go Go.RowKit
set_option linter.unusedVariables false
set_option maxRecDepth 1000000

def BoolEnd (b : Bool) (w : World) (e : Ending) (w' : World) : Prop := e = .returned (.bool b) ∧ Below w.heap.size w w'
def TxtEnd (t : List UInt8) (w : World) (e : Ending) (w' : World) : Prop := e = .returned (.string ⟨t.toArray⟩) ∧ Below w.heap.size w w'
theorem ret_bool {a b : Bool} (h : a = b) : Ending.returned (.bool a) = .returned (.bool b) := by rw [h]
theorem ret_txt {a b : List UInt8} (h : a = b) : Ending.returned (.string ⟨a.toArray⟩) = .returned (.string ⟨b.toArray⟩) := by rw [h]

set_option maxHeartbeats 1000000 in
theorem spec_is_s (x : Bool) (s : ByteArray) (w : World) (hs : s.size ≤ 1048576) :
    Calls Tryz.prog 57 #[.agg #[.bool x, .string s]] w (BoolEnd (okt s.data.toList) w) := by
  have HB : Hid (Below w.heap.size w (w.alloc (.cells #[.bool x, .string s] 57))) := Lib.hid ((Below.refl _ _).alloc (Nat.le_refl _) _)
  go_enter Tryz.func57, Tryz.ntmps57
  go_wp2
  go_loop [3] (fun i => ∃ k : Nat, k ≤ s.size ∧ i = .int .i64 k ∧ (s.data.toList.take k).all tgc = true) (fun i => s.size - (intOf i).toNat)
  case atStart => exact ⟨0, Nat.zero_le _, rfl, rfl⟩
  case round =>
    obtain ⟨k, hk, rfl, ha⟩ := hrel
    have HA := Lib.hid ha
    clear ha
    by_cases hlt : k < s.size
    · have hb255 : (s[k].toNat : Int) ≤ 255 := by have := s[k].toNat_lt; omega
      rcases hc : tgc s[k] with _ | _
      · have HT := Lib.hid (okt_bad hlt hc)
        rcases tgc_no hc with q1 | ⟨q1, q2⟩
        · have HQ := Lib.hid q1
          clear hc q1
          go_wp2_with (go_at_call 49; (with_reducible refine (NumDiv.in_no _ _ _ _ HQ.out).mono ?_); rintro e w' ⟨rfl, rfl⟩)
          go_ret
          exact ⟨ret_bool HT.out.symm, HB.out⟩
        · obtain ⟨q3, q4⟩ := q1
          have q5 : ((s[k].toNat : Int) == 34) = true := by rw [q2]; rfl
          clear hc q2
          go_wp2_with (go_at_call 49; (with_reducible refine (NumDiv.in_yes _ _ _ _ q3 q4).mono ?_); rintro e w' ⟨rfl, rfl⟩)
          go_ret
          exact ⟨ret_bool HT.out.symm, HB.out⟩
      · have HT := Lib.hid (tgc_more hlt HA.out hc)
        obtain ⟨⟨q1, q2⟩, q3⟩ := tgc_yes hc
        have q4 : ((s[k].toNat : Int) == 34) = false := by simpa using q3
        clear hc q3
        go_wp2_with (go_at_call 49; (with_reducible refine (NumDiv.in_yes _ _ _ _ q1 q2).mono ?_); rintro e w' ⟨rfl, rfl⟩)
        go_round
        case rel => exact ⟨k + 1, by omega, by go_num, HT.out⟩
        case measure => simp [intOf]; omega
    · have HT := Lib.hid (okt_all (show k = s.size by omega) HA.out)
      go_wp2
      go_ret
      exact ⟨ret_bool HT.out.symm, HB.out⟩

set_option maxHeartbeats 1000000 in
theorem impl_is_s (x : Bool) (s : ByteArray) (w : World) (hs : s.size ≤ 1048576) :
    Calls Tryz.prog 63 #[.agg #[.bool x, .string s]] w (BoolEnd (okt s.data.toList) w) := by
  have HB : Hid (Below w.heap.size w (w.alloc (.cells #[.bool x, .string s] 57))) := Lib.hid ((Below.refl _ _).alloc (Nat.le_refl _) _)
  by_cases h40 : 40 < s.size
  · have HT := Lib.hid (okt_long h40)
    go_enter Tryz.func63, Tryz.ntmps63
    go_wp2
    go_ret
    exact ⟨ret_bool HT.out.symm, HB.out⟩
  · go_enter Tryz.func63, Tryz.ntmps63
    go_wp2
    go_loop [3, 11] (fun j i => ∃ k : Nat, k ≤ s.size ∧ i = .int .i64 k ∧ (s.data.toList.take k).all tgc = true) (fun _ i => s.size - (intOf i).toNat)
    case atStart => exact ⟨0, Nat.zero_le _, rfl, rfl⟩
    case round =>
      obtain ⟨k, hk, rfl, ha⟩ := hrel
      have HA := Lib.hid ha
      clear ha
      by_cases hlt : k < s.size
      · have hb255 : (s[k].toNat : Int) ≤ 255 := by have := s[k].toNat_lt; omega
        rcases hc : tgc s[k] with _ | _
        · have HT := Lib.hid (okt_bad hlt hc)
          rcases tgc_no hc with (q1 | q1) | ⟨q1, q2⟩
          · have q2 : (s[k].toNat : Int) ≤ 32 := by omega
            clear hc q1
            go_wp2
            go_ret
            exact ⟨ret_bool HT.out.symm, HB.out⟩
          · have q2 : ¬ (s[k].toNat : Int) ≤ 32 := by omega
            clear hc
            go_wp2
            go_ret
            exact ⟨ret_bool HT.out.symm, HB.out⟩
          · have q3 : ¬ (s[k].toNat : Int) ≤ 32 := by omega
            have q4 : ¬ 126 < (s[k].toNat : Int) := by omega
            have q5 : ((s[k].toNat : Int) == 34) = true := by rw [q2]; rfl
            clear hc q1 q2
            go_wp2
            go_ret
            exact ⟨ret_bool HT.out.symm, HB.out⟩
        · have HT := Lib.hid (tgc_more hlt HA.out hc)
          obtain ⟨⟨q1, q2⟩, q3⟩ := tgc_yes hc
          have q4 : ((s[k].toNat : Int) == 34) = false := by simpa using q3
          have q5 : ¬ (s[k].toNat : Int) ≤ 32 := by omega
          have q6 : ¬ 126 < (s[k].toNat : Int) := by omega
          clear hc q3 q1 q2
          go_wp2
          go_round
          case rel => exact ⟨k + 1, by omega, by go_num, HT.out⟩
          case measure => simp [intOf]; omega
      · have HT := Lib.hid (okt_all (show k = s.size by omega) HA.out)
        go_wp2
        go_ret
        exact ⟨ret_bool (by rw [HT.out]; symm; simp; omega), HB.out⟩
theorem bsz (y : List UInt8) : (⟨y.toArray⟩ : ByteArray).size = y.length := by simp [ByteArray.size]
theorem spec_is (x : Bool) (y : List UInt8) (w : World) (hs : y.length ≤ 1048576) :
    Calls Tryz.prog 57 #[.agg #[.bool x, .string ⟨y.toArray⟩]] w (BoolEnd (okt y) w) := spec_is_s x ⟨y.toArray⟩ w (by rw [bsz]; exact hs)
theorem impl_is (x : Bool) (y : List UInt8) (w : World) (hs : y.length ≤ 1048576) :
    Calls Tryz.prog 63 #[.agg #[.bool x, .string ⟨y.toArray⟩]] w (BoolEnd (okt y) w) := impl_is_s x ⟨y.toArray⟩ w (by rw [bsz]; exact hs)

theorem box_after {w w1 : World} {x : Bool} {y : List UInt8} (h : Below (w.alloc (.cells #[.bool x, .string ⟨y.toArray⟩] 57)).heap.size (w.alloc (.cells #[.bool x, .string ⟨y.toArray⟩] 57)) w1) :
    (w1.cell? ⟨w.heap.size, 0, none⟩ = some (.bool x) ∧ w1.cell? ⟨w.heap.size, 1, none⟩ = some (.string ⟨y.toArray⟩)) ∧ Below w.heap.size w w1 := by
  refine ⟨⟨?_, ?_⟩, ((Below.refl _ _).alloc (Nat.le_refl _) _).trans (h.mono (by simp))⟩
  · rw [h.cell (p := ⟨w.heap.size, 0, none⟩) (by simp), World.cell?_alloc_new]; rfl
  · rw [h.cell (p := ⟨w.heap.size, 1, none⟩) (by simp), World.cell?_alloc_new]; rfl

end Go.Proofs.YtgclilgahalgaaaGreatDoor.Tgs

/-
  CONTRACT of the program's ParseTag; nothing that was there before is changed.
-/
namespace Go.Proofs.YtgclilgahalgaaaGreatDoor.Tgs
open Go Go.RowKit
set_option linter.unusedVariables false
set_option maxRecDepth 1000000

def ParEnd (l : List UInt8) (w : World) (e : Ending) (w' : World) : Prop := e = .returned (.tuple #[.agg #[.bool (ptag l).1.1, .string ⟨(ptag l).1.2.toArray⟩], .bool (ptag l).2]) ∧ Below w.heap.size w w'
theorem par_ret {l : List UInt8} {x b : Bool} {t : List UInt8} (h : ptag l = ((x, t), b)) : Ending.returned (.tuple #[.agg #[.bool x, .string ⟨t.toArray⟩], .bool b]) = .returned (.tuple #[.agg #[.bool (ptag l).1.1, .string ⟨(ptag l).1.2.toArray⟩], .bool (ptag l).2]) := by rw [h]
/-- Two blocks of the call's own, kept by what follows. -/
theorem kept22 {w w1 : World} {T : TypeId} {a b c d : Value} (hb : Below ((w.alloc (.cells #[a, b] T)).alloc (.cells #[c, d] T)).heap.size ((w.alloc (.cells #[a, b] T)).alloc (.cells #[c, d] T)) w1) :
    (w1.cell? ⟨w.heap.size, 0, none⟩ = some a ∧ w1.cell? ⟨w.heap.size, 1, none⟩ = some b ∧ w1.cell? ⟨w.heap.size + 1, 0, none⟩ = some c ∧ w1.cell? ⟨w.heap.size + 1, 1, none⟩ = some d) ∧ (w1.frozen? ⟨w.heap.size, 0, none⟩ = false ∧ w1.frozen? ⟨w.heap.size, 1, none⟩ = false) ∧ Below w.heap.size w w1 := by
  have h1 : Below (w.alloc (.cells #[a, b] T)).heap.size (w.alloc (.cells #[a, b] T)) w1 := ((Below.refl _ _).alloc (Nat.le_refl _) _).trans (hb.mono (by simp))
  refine ⟨⟨?_, ?_, ?_, ?_⟩, ⟨?_, ?_⟩, ((Below.refl _ _).alloc (Nat.le_refl _) _).trans (h1.mono (by simp))⟩
  · rw [h1.cell (p := ⟨w.heap.size, 0, none⟩) (by simp), World.cell?_alloc_new]; rfl
  · rw [h1.cell (p := ⟨w.heap.size, 1, none⟩) (by simp), World.cell?_alloc_new]; rfl
  · rw [hb.cell (p := ⟨w.heap.size + 1, 0, none⟩) (by simp), World.cell?_alloc_at _ _ _ _ (by simp)]; rfl
  · rw [hb.cell (p := ⟨w.heap.size + 1, 1, none⟩) (by simp), World.cell?_alloc_at _ _ _ _ (by simp)]; rfl
  · rw [h1.frozen (p := ⟨w.heap.size, 0, none⟩) (by simp)]; simp [go_sem]
  · rw [h1.frozen (p := ⟨w.heap.size, 1, none⟩) (by simp)]; simp [go_sem]
theorem trimp_len (l p : List UInt8) : (Lib.trimPrefix l p).length ≤ l.length := by unfold Lib.trimPrefix; split <;> simp
theorem trims_len (l p : List UInt8) : (Lib.trimSuffix l p).length ≤ l.length := by unfold Lib.trimSuffix; split <;> simp

set_option maxHeartbeats 2000000 in
theorem impl_ptag (l : List UInt8) (w : World) (hs : l.length ≤ 1048576) :
    Calls Tryz.prog 37 #[.string ⟨l.toArray⟩] w (ParEnd l w) := by
  have C1 : Hid (∀ W : World, Calls Tryz.prog 61 #[.string ⟨l.toArray⟩, .string ⟨#[87, 47]⟩] W fun e w' => e = .returned (.tuple #[.string ⟨(Lib.trimPrefix l [87, 47]).toArray⟩, .bool (Lib.hasPrefix l [87, 47])]) ∧ w' = W) := Lib.hid (fun W => Tryz.strings_CutPrefix ⟨l.toArray⟩ ⟨#[87, 47]⟩ W)
  have HP : Hid (ptag l = if Lib.hasPrefix (Lib.trimPrefix l [87, 47]) [34] && (Lib.hasSuffix (Lib.trimPrefix (Lib.trimPrefix l [87, 47]) [34]) [34] && okt (Lib.trimSuffix (Lib.trimPrefix (Lib.trimPrefix l [87, 47]) [34]) [34]))
  then ((Lib.hasPrefix l [87, 47], Lib.trimSuffix (Lib.trimPrefix (Lib.trimPrefix l [87, 47]) [34]) [34]), true) else ((false, []), false)) := Lib.hid rfl
  have l1 := trimp_len l [87, 47]
  generalize Lib.trimPrefix l [87, 47] = r at C1 HP l1
  generalize Lib.hasPrefix l [87, 47] = wk at C1 HP
  have C2 : Hid (∀ W : World, Calls Tryz.prog 61 #[.string ⟨r.toArray⟩, .string ⟨#[34]⟩] W fun e w' => e = .returned (.tuple #[.string ⟨(Lib.trimPrefix r [34]).toArray⟩, .bool (Lib.hasPrefix r [34])]) ∧ w' = W) := Lib.hid (fun W => Tryz.strings_CutPrefix ⟨r.toArray⟩ ⟨#[34]⟩ W)
  have l2 := trimp_len r [34]
  generalize Lib.trimPrefix r [34] = t at C2 HP l2
  generalize Lib.hasPrefix r [34] = op at C2 HP
  have C3 : Hid (∀ W : World, Calls Tryz.prog 62 #[.string ⟨t.toArray⟩, .string ⟨#[34]⟩] W fun e w' => e = .returned (.tuple #[.string ⟨(Lib.trimSuffix t [34]).toArray⟩, .bool (Lib.hasSuffix t [34])]) ∧ w' = W) := Lib.hid (fun W => Tryz.strings_CutSuffix ⟨t.toArray⟩ ⟨#[34]⟩ W (by rw [bsz]; omega))
  have l3 := trims_len t [34]
  generalize Lib.trimSuffix t [34] = u at C3 HP l3
  generalize Lib.hasSuffix t [34] = cl at C3 HP
  have HI := Lib.hid (fun W => impl_is wk u W (by omega))
  have HZ : Hid (Below w.heap.size w ((w.alloc (.cells #[.bool false, .string ⟨#[]⟩] 57)).alloc (.cells #[.bool wk, .string ⟨u.toArray⟩] 57))) := Lib.hid (((Below.refl _ _).alloc (Nat.le_refl _) _).alloc (by simp) _)
  have HK := Lib.hid (fun w1 => kept22 (w := w) (w1 := w1) (T := 57) (a := .bool false) (b := .string ⟨#[]⟩) (c := .bool wk) (d := .string ⟨u.toArray⟩))
  clear l1 l2 l3 hs
  cases op with
  | false =>
    have HE : Hid (ptag l = ((false, []), false)) := Lib.hid (by rw [HP.out]; simp)
    clear HP HI HK
    go_enter Tryz.func37, Tryz.ntmps37
    go_wp2_with (first | (go_at_call 61; with_reducible refine (C1.out _).mono ?_; rintro e w' ⟨rfl, hw⟩; rw [hw]; clear hw) | (go_at_call 61; with_reducible refine (C2.out _).mono ?_; rintro e w' ⟨rfl, hw⟩; rw [hw]; clear hw) | (go_at_call 62; with_reducible refine (C3.out _).mono ?_; rintro e w' ⟨rfl, hw⟩; rw [hw]; clear hw))
    refine bodyPost_ret (v := .tuple #[.agg #[.bool false, .string ⟨#[]⟩], .bool false]) (by simp [results, Tryz.results37, go_sem]) rfl ⟨par_ret HE.out, HZ.out⟩
  | true =>
    cases cl with
    | false =>
      have HE : Hid (ptag l = ((false, []), false)) := Lib.hid (by rw [HP.out]; simp)
      clear HP HI HK
      go_enter Tryz.func37, Tryz.ntmps37
      go_wp2_with (first | (go_at_call 61; with_reducible refine (C1.out _).mono ?_; rintro e w' ⟨rfl, hw⟩; rw [hw]; clear hw) | (go_at_call 61; with_reducible refine (C2.out _).mono ?_; rintro e w' ⟨rfl, hw⟩; rw [hw]; clear hw) | (go_at_call 62; with_reducible refine (C3.out _).mono ?_; rintro e w' ⟨rfl, hw⟩; rw [hw]; clear hw))
      refine bodyPost_ret (v := .tuple #[.agg #[.bool false, .string ⟨#[]⟩], .bool false]) (by simp [results, Tryz.results37, go_sem]) rfl ⟨par_ret HE.out, HZ.out⟩
    | true =>
      cases hz : okt u with
      | false =>
        have HE : Hid (ptag l = ((false, []), false)) := Lib.hid (by rw [HP.out, hz]; simp)
        rw [hz] at HI
        clear HP hz HZ
        go_enter Tryz.func37, Tryz.ntmps37
        go_wp2_with (first | (go_at_call 61; with_reducible refine (C1.out _).mono ?_; rintro e w' ⟨rfl, hw⟩; rw [hw]; clear hw) | (go_at_call 61; with_reducible refine (C2.out _).mono ?_; rintro e w' ⟨rfl, hw⟩; rw [hw]; clear hw) | (go_at_call 62; with_reducible refine (C3.out _).mono ?_; rintro e w' ⟨rfl, hw⟩; rw [hw]; clear hw))
        go_at_call 63
        refine (HI.out _).mono ?_
        rintro e w1 ⟨rfl, hb⟩
        obtain ⟨⟨q1, q2, q3, q4⟩, ⟨f1, f2⟩, hb1⟩ := HK.out _ hb
        have HB := Lib.hid hb1
        clear hb hb1
        go_wp2
        refine bodyPost_ret (v := .tuple #[.agg #[.bool false, .string ⟨#[]⟩], .bool false]) (by simp [results, Tryz.results37, go_sem, q1, q2]) rfl ⟨par_ret HE.out, ?_⟩
        exact (HB.out.setCell (Nat.le_refl _) _).setCell (Nat.le_refl _) _
      | true =>
        have HE : Hid (ptag l = ((wk, u), true)) := Lib.hid (by rw [HP.out, hz]; simp)
        rw [hz] at HI
        clear HP hz HZ
        go_enter Tryz.func37, Tryz.ntmps37
        go_wp2_with (first | (go_at_call 61; with_reducible refine (C1.out _).mono ?_; rintro e w' ⟨rfl, hw⟩; rw [hw]; clear hw) | (go_at_call 61; with_reducible refine (C2.out _).mono ?_; rintro e w' ⟨rfl, hw⟩; rw [hw]; clear hw) | (go_at_call 62; with_reducible refine (C3.out _).mono ?_; rintro e w' ⟨rfl, hw⟩; rw [hw]; clear hw))
        go_at_call 63
        refine (HI.out _).mono ?_
        rintro e w1 ⟨rfl, hb⟩
        obtain ⟨⟨q1, q2, q3, q4⟩, ⟨f1, f2⟩, hb1⟩ := HK.out _ hb
        have HB := Lib.hid hb1
        clear hb hb1
        go_wp2
        refine bodyPost_ret (v := .tuple #[.agg #[.bool wk, .string ⟨u.toArray⟩], .bool true]) (by simp [results, Tryz.results37, go_sem, q1, q2]) rfl ⟨par_ret HE.out, ?_⟩
        exact (HB.out.setCell (Nat.le_refl _) _).setCell (Nat.le_refl _) _

/-- What stands between two quotes, by the text's bytes. -/
theorem inner_yes {s : ByteArray} (h2 : 2 ≤ s.size) (ha : s[0] = 34) (hz : s[s.size - 1] = 34) : inner s.data.toList = (true, (s.extract 1 (s.size - 1)).data.toList) := by
  obtain ⟨⟨l⟩⟩ := s
  have hl : (⟨⟨l⟩⟩ : ByteArray).size = l.length := rfl
  rw [hl] at h2
  have e0 : l.head? = some 34 := by
    cases l with
    | nil => simp at h2
    | cons a t => have ha' : a = 34 := ha; simp [ha']
  have e1 : l.getLast? = some 34 := by
    rw [List.getLast?_eq_getElem?]
    have hlt : l.length - 1 < l.length := by omega
    rw [List.getElem?_eq_getElem hlt]
    exact congrArg some hz
  unfold inner
  rw [Lib.extract_data]
  show (decide (2 ≤ l.length) && (l.head? == some 34 && l.getLast? == some 34), (l.drop 1).take (l.length - 2)) = (true, (l.drop 1).take (l.length - 1 - 1))
  rw [e0, e1, show l.length - 1 - 1 = l.length - 2 by omega]
  simp [h2]
theorem inner_no {s : ByteArray} (h : s.size < 2 ∨ (∃ h0 : 0 < s.size, s[0] ≠ 34) ∨ ∃ h0 : s.size - 1 < s.size, s[s.size - 1] ≠ 34) : (inner s.data.toList).1 = false := by
  obtain ⟨⟨l⟩⟩ := s
  unfold inner
  show (decide (2 ≤ l.length) && (l.head? == some 34 && l.getLast? == some 34)) = false
  rcases h with h | ⟨h0, h⟩ | ⟨h0, h⟩
  · have h' : l.length < 2 := h
    have : decide (2 ≤ l.length) = false := by simp; omega
    rw [this, Bool.false_and]
  · have : (l.head? == some 34) = false := by
      cases l with
      | nil => rfl
      | cons a t =>
        have ha : a ≠ 34 := h
        simp [ha]
    rw [this, Bool.false_and, Bool.and_false]
  · have : (l.getLast? == some 34) = false := by
      rw [List.getLast?_eq_getElem?]
      have hlt : l.length - 1 < l.length := h0
      rw [List.getElem?_eq_getElem hlt]
      have ha : l[l.length - 1] ≠ 34 := h
      simp [ha]
    rw [this, Bool.and_false, Bool.and_false]

end Go.Proofs.YtgclilgahalgaaaGreatDoor.Tgs
