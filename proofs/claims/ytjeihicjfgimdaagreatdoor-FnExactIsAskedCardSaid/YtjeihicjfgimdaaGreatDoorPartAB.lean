/-
  CONTRACTS AND PLAIN FACTS, several texts in one; each says in its own words what it proves.
-/
import Derived.Test.YtjeihicjfgimdaaGreatDoorPartC
import Derived.Test.YtjeihicjfgimdaaGreatDoorPartH
import Derived.Test.YtjeihicjfgimdaaGreatDoorPartAA
import Derived.Lib.Strings
import Derived.Test.YtjeihicjfgimdaaGreatDoorPartM
import Derived.Test.YtjeihicjfgimdaaGreatDoorPartJ
import Derived.LoopTactic
import Derived.Outline
import Derived.Test.YtjeihicjfgimdaaGreatDoorPartK
import Derived.Laws.DeepStrings4
set_option linter.unusedSimpArgs false
set_option linter.unusedVariables false

/-
  PLAIN FACTS on slices of Tag (written by rec.py): what a slice holds, how that is kept, and how a slice that the call itself has built is such a one.
-/
namespace Go.Proofs.YtjeihicjfgimdaaGreatDoor.Tgs
open Go Go.RowKit
set_option linter.unusedVariables false
set_option maxRecDepth 1000000

abbrev T : Type := Bool × List UInt8
def nov : T := (false, [])
def cs (f : T) : List Value := [.bool (f.1), .string ⟨(f.2).toArray⟩]
def fv (f : T) : Value := .agg #[.bool (f.1), .string ⟨(f.2).toArray⟩]
theorem cs_len (f : T) : (cs f).length = 2 := rfl
theorem cs_one (f : T) : ∀ u ∈ cs f, u.oneCell' = true := by
  intro u hu; simp [cs] at hu; rcases hu with rfl | rfl <;> rfl
def fcs (l : List T) : List Value := Rec.flat cs l
theorem fcs_len (l : List T) : (fcs l).length = l.length * 2 := Rec.flat_len cs_len l
theorem fcs_more (l : List T) (f : T) : fcs (l ++ [f]) = fcs l ++ [.bool (f.1), .string ⟨(f.2).toArray⟩] := Rec.flat_more l f
theorem fcs_one (l : List T) : ∀ u ∈ fcs l, u.oneCell' = true := Rec.flat_one cs_one l
theorem fcs_put {l : List T} {k : Nat} (f : T) (h : k < l.length) : ((fcs l).set (k * 2) (.bool (f.1))).set (k * 2 + 1) (.string ⟨(f.2).toArray⟩) = fcs (l.set k f) := Rec.flat_put cs_len f h
def Ok (f : T) : Prop := f.2.length ≤ maxLen
/-- The cells from (b, off) on are these. -/
def At (w : World) (b off : Nat) (l : List T) : Prop := Rec.At 2 cs nov w b off l
/-- The slice v reads as l; its cells lie below block B. -/
def Holds (w : World) (B : Nat) (v : Value) (l : List T) : Prop := Rec.Holds 2 cs nov w B v l
theorem holds_iff {w : World} {B : Nat} {v : Value} {l : List T} (h : Holds w B v l) : (l = [] ∧ ∃ a cap, v = .slice a 0 cap) ∨ (0 < l.length ∧ ∃ b off cap, v = .slice (some ⟨b, off, none⟩) l.length cap ∧ b < B ∧ l.length ≤ cap ∧ At w b off l) := h
theorem holds_nil (w : World) (B : Nat) (a : Option Addr) (cap : Nat) : Holds w B (.slice a 0 cap) [] := Or.inl ⟨rfl, _, _, rfl⟩
theorem at_cells {w : World} {b off : Nat} {l : List T} (h : At w b off l) {j : Nat} (hj : j < l.length) : w.cell? ⟨b, off + j * 2, none⟩ = some (.bool ((l.getD j nov).1)) ∧ w.cell? ⟨b, off + j * 2 + 1, none⟩ = some (.string ⟨((l.getD j nov).2).toArray⟩) := ⟨h j hj 0 _ rfl, h j hj 1 _ rfl⟩
theorem at_lt {w : World} {b off : Nat} {l : List T} (h : At w b off l) (h0 : 0 < l.length) : b < w.heap.size := Rec.at_lt cs_len (by decide) h h0
theorem at_below {w w' : World} {B b off : Nat} {l : List T} (h : At w b off l) (hb : Below B w w') (hlt : b < B) : At w' b off l := Rec.at_below h hb hlt
theorem holds_more {w : World} {B B' : Nat} {v : Value} {l : List T} (h : Holds w B v l) (hB : B ≤ B') : Holds w B' v l := Rec.holds_more h hB
theorem holds_below {w w' : World} {B : Nat} {v : Value} {l : List T} (h : Holds w B v l) (hb : Below B w w') : Holds w' B v l := Rec.holds_below h hb
theorem holds_grown {w w' : World} {B : Nat} {v : Value} {l : List T} {row : Option Nat} (h : Holds w B v l) (hg : w.grownBy w' row) (hr : ∀ k, row = some k → B ≤ k) : Holds w' B v l := Rec.holds_grown h hg hr
theorem holds_drew {w : World} {B : Nat} {v : Value} {l : List T} (h : Holds w B v l) : Holds w.drew B v l := h
def part (l : List T) (k : Nat) : List T := Rec.part nov l k
theorem part_len (l : List T) {k : Nat} (h : k ≤ l.length) : (part l k).length = l.length := Rec.part_len l h
theorem part_all (l : List T) : part l l.length = l := Rec.part_all l
theorem part_more {l : List T} {k : Nat} (h : k < l.length) : (part l k).set k (l.getD k nov) = part l (k + 1) := Rec.part_more h
theorem made_part (l : List T) : (madeCells (Value.agg #[.bool false, .string ⟨#[]⟩]).cells (l.length * 2)).toList = fcs (part l 0) := Rec.made_part cs_len (by decide) l _ rfl
def wt (f : T) : Nat := f.2.length
def total (l : List T) : Nat := Rec.total wt l
theorem len_le_total (l : List T) : l.length ≤ total l := Rec.len_le_total wt l
theorem mem_total {l : List T} {f : T} (h : f ∈ l) : wt f ≤ total l := Rec.mem_total wt h
end Go.Proofs.YtjeihicjfgimdaaGreatDoor.Tgs

/-
  PLAIN FACTS on the texts of entity tags: which bytes may stand in one, how a tag is written, how it is read.
-/
namespace Go.Proofs.YtjeihicjfgimdaaGreatDoor.Tgs
open Go Go.RowKit
set_option linter.unusedVariables false
set_option maxRecDepth 1000000

def tgc (c : UInt8) : Bool := decide (33 ≤ c.toNat ∧ c.toNat ≤ 126) && !(c == 34)
def okt (l : List UInt8) : Bool := l.all tgc && decide (l.length ≤ 40)
theorem tgc_no {c : UInt8} (h : tgc c = false) : ((c.toNat : Int) < 33 ∨ 126 < (c.toNat : Int)) ∨ ((33 ≤ (c.toNat : Int) ∧ (c.toNat : Int) ≤ 126) ∧ c = 34) := by
  unfold tgc at h
  by_cases a : 33 ≤ c.toNat ∧ c.toNat ≤ 126
  · right
    refine ⟨by omega, ?_⟩
    simpa [a] using h
  · left; omega
theorem tgc_yes {c : UInt8} (h : tgc c = true) : (33 ≤ (c.toNat : Int) ∧ (c.toNat : Int) ≤ 126) ∧ (c.toNat : Int) ≠ 34 := by
  unfold tgc at h
  rw [Bool.and_eq_true] at h
  have h1 := of_decide_eq_true h.1
  refine ⟨by omega, fun e => ?_⟩
  have : c = 34 := UInt8.toNat_inj.1 (by show c.toNat = 34; omega)
  rw [this] at h; simp at h
theorem list_len (s : ByteArray) : s.data.toList.length = s.size := by rw [Array.length_toList]; rfl
theorem tgc_more {s : ByteArray} {k : Nat} (h : k < s.size) (ha : (s.data.toList.take k).all tgc = true) (hc : tgc s[k] = true) : (s.data.toList.take (k + 1)).all tgc = true := by
  rw [Tx.take_snoc s k h, List.all_append, ha, List.all_cons, hc]; rfl
theorem okt_bad {s : ByteArray} {k : Nat} (h : k < s.size) (hc : tgc s[k] = false) : okt s.data.toList = false := by
  unfold okt
  have : s.data.toList.all tgc = false := by
    rw [Bool.eq_false_iff]
    intro ha
    have hm : s[k] ∈ s.data.toList := by
      rw [← List.take_append_drop k s.data.toList, Tx.drop_cons s k h]; simp
    rw [List.all_eq_true] at ha
    have := ha _ hm
    rw [hc] at this; cases this
  rw [this, Bool.false_and]
theorem okt_all {s : ByteArray} {k : Nat} (h : k = s.size) (ha : (s.data.toList.take k).all tgc = true) : okt s.data.toList = decide ((s.size : Int) ≤ 40) := by
  have e : s.data.toList.take k = s.data.toList := List.take_of_length_le (by rw [list_len]; omega)
  rw [e] at ha
  unfold okt
  rw [ha, Bool.true_and, list_len, Bool.eq_iff_iff]; simp; omega
theorem okt_long {s : ByteArray} (h : 40 < s.size) : okt s.data.toList = false := by
  unfold okt
  rw [list_len]
  have : decide (s.size ≤ 40) = false := by simp; omega
  rw [this, Bool.and_false]
/-- How a tag is written. -/
def ftag (f : T) : List UInt8 := if okt f.2 then (if f.1 then [87, 47, 34] ++ f.2 ++ [34] else [34] ++ f.2 ++ [34]) else []
theorem ftag_no {x : Bool} {y : List UInt8} (h : okt y = false) : ftag (x, y) = [] := by unfold ftag; simp [h]
theorem ftag_weak {y : List UInt8} (h : okt y = true) : ftag (true, y) = [87, 47, 34] ++ y ++ [34] := by unfold ftag; simp [h]
theorem ftag_strong {y : List UInt8} (h : okt y = true) : ftag (false, y) = [34] ++ y ++ [34] := by unfold ftag; simp [h]
/-- How a tag is read. -/
def ptag (l : List UInt8) : T × Bool :=
  if Lib.hasPrefix (Lib.trimPrefix l [87, 47]) [34] && (Lib.hasSuffix (Lib.trimPrefix (Lib.trimPrefix l [87, 47]) [34]) [34] && okt (Lib.trimSuffix (Lib.trimPrefix (Lib.trimPrefix l [87, 47]) [34]) [34]))
  then ((Lib.hasPrefix l [87, 47], Lib.trimSuffix (Lib.trimPrefix (Lib.trimPrefix l [87, 47]) [34]) [34]), true) else ((false, []), false)
/-- What stands between two quotes. -/
def inner (r : List UInt8) : Bool × List UInt8 := (decide (2 ≤ r.length) && (r.head? == some 34 && r.getLast? == some 34), (r.drop 1).take (r.length - 2))
theorem inner_lib (r : List UInt8) : (Lib.hasPrefix r [34] && Lib.hasSuffix (Lib.trimPrefix r [34]) [34]) = (inner r).1 ∧ ((inner r).1 = true → Lib.trimSuffix (Lib.trimPrefix r [34]) [34] = (inner r).2) := by
  cases r with
  | nil => exact ⟨by decide, by intro h; exact absurd h (by decide)⟩
  | cons a t =>
    by_cases ha : a = 34
    · subst ha
      have hp : Lib.hasPrefix (34 :: t) [34] = true := by simp [Lib.hasPrefix, List.isPrefixOf]
      have ht : Lib.trimPrefix (34 :: t) [34] = t := by unfold Lib.trimPrefix; rw [if_pos hp]; rfl
      rw [hp, ht, Bool.true_and]
      rcases List.eq_nil_or_concat t with rfl | ⟨m, b, rfl⟩
      · exact ⟨by decide, by intro h; exact absurd h (by decide)⟩
      · simp only [List.concat_eq_append]
        have hs : Lib.hasSuffix (m ++ [b]) [34] = (b == 34) := by
          rw [Bool.eq_iff_iff]
          unfold Lib.hasSuffix
          rw [List.isSuffixOf_iff_suffix]
          constructor
          · rintro ⟨q, hq⟩
            have := List.append_inj_right' hq.symm rfl
            simp at this; simp [this]
          · intro h
            have : b = 34 := by simpa using h
            subst this; exact ⟨m, rfl⟩
        have hi : (inner (34 :: (m ++ [b]))).1 = (b == 34) := by
          unfold inner
          have : (34 :: (m ++ [b]) : List UInt8).getLast? = some b := by
            rw [show (34 :: (m ++ [b]) : List UInt8) = (34 :: m) ++ [b] by rfl, List.getLast?_append]; rfl
          simp only [this]
          simp
        refine ⟨by rw [hs, hi], fun h => ?_⟩
        rw [hi] at h
        have : b = 34 := by simpa using h
        subst this
        unfold Lib.trimSuffix
        rw [if_pos (by rw [hs]; rfl)]
        unfold inner
        simp
    · have hp : Lib.hasPrefix (a :: t) [34] = false := by
        have : (34 == a) = false := by rw [beq_eq_false_iff_ne]; exact fun e => ha e.symm
        simp [Lib.hasPrefix, List.isPrefixOf, this]
      rw [hp, Bool.false_and]
      have hi : (inner (a :: t)).1 = false := by
        unfold inner
        have : ((a :: t).head? == some 34) = false := by simp [ha]
        rw [this, Bool.false_and, Bool.and_false]
      exact ⟨hi.symm, fun h => by rw [hi] at h; cases h⟩
theorem ptag_inner (l : List UInt8) : ptag l = if (inner (Lib.trimPrefix l [87, 47])).1 && okt (inner (Lib.trimPrefix l [87, 47])).2 then ((Lib.hasPrefix l [87, 47], (inner (Lib.trimPrefix l [87, 47])).2), true) else ((false, []), false) := by
  unfold ptag
  obtain ⟨h1, h2⟩ := inner_lib (Lib.trimPrefix l [87, 47])
  rw [← Bool.and_assoc, h1]
  by_cases h : (inner (Lib.trimPrefix l [87, 47])).1 = true
  · rw [h2 h]
  · have : (inner (Lib.trimPrefix l [87, 47])).1 = false := by simpa using h
    rw [this, Bool.false_and, Bool.false_and]; rfl
theorem prefix_at (l : List UInt8) : Lib.hasPrefix l [87, 47] = (decide (2 ≤ l.length) && (l.take 2 == [87, 47])) := (Lib.hasPrefix_of_take l [87, 47]).symm
/-- The tag of a text, by what stands where. -/
theorem ptag_weak {l : List UInt8} (h2 : 2 ≤ l.length) (h : l.take 2 = [87, 47]) : ptag l = if (inner (l.drop 2)).1 && okt (inner (l.drop 2)).2 then ((true, (inner (l.drop 2)).2), true) else ((false, []), false) := by
  have hp : Lib.hasPrefix l [87, 47] = true := by rw [prefix_at, h]; simp [h2]
  have ht : Lib.trimPrefix l [87, 47] = l.drop 2 := by unfold Lib.trimPrefix; rw [if_pos hp]; rfl
  rw [ptag_inner, ht, hp]
theorem ptag_strong {l : List UInt8} (h : ¬ (2 ≤ l.length ∧ l.take 2 = [87, 47])) : ptag l = if (inner l).1 && okt (inner l).2 then ((false, (inner l).2), true) else ((false, []), false) := by
  have hp : Lib.hasPrefix l [87, 47] = false := by
    rw [prefix_at]
    by_cases h2 : 2 ≤ l.length
    · have h3 : l.take 2 ≠ [87, 47] := fun e => h ⟨h2, e⟩
      have : (l.take 2 == [87, 47]) = false := by simpa using h3
      rw [this, Bool.and_false]
    · have : decide (2 ≤ l.length) = false := by simpa using h2
      rw [this, Bool.false_and]
  have ht : Lib.trimPrefix l [87, 47] = l := by unfold Lib.trimPrefix; rw [hp]; rfl
  rw [ptag_inner, ht, hp]
end Go.Proofs.YtjeihicjfgimdaaGreatDoor.Tgs

/-
  CONTRACTS of both sides' IsTag, FormatTag, StrongSame and WeakSame; nothing that was there before is changed.
-/
namespace Go.Proofs.YtjeihicjfgimdaaGreatDoor.Tgs
open Go Go.RowKit
set_option linter.unusedVariables false
set_option maxRecDepth 1000000

def BoolEnd (b : Bool) (w : World) (e : Ending) (w' : World) : Prop := e = .returned (.bool b) ∧ Below w.heap.size w w'
def TxtEnd (t : List UInt8) (w : World) (e : Ending) (w' : World) : Prop := e = .returned (.string ⟨t.toArray⟩) ∧ Below w.heap.size w w'
theorem ret_bool {a b : Bool} (h : a = b) : Ending.returned (.bool a) = .returned (.bool b) := by rw [h]
theorem ret_txt {a b : List UInt8} (h : a = b) : Ending.returned (.string ⟨a.toArray⟩) = .returned (.string ⟨b.toArray⟩) := by rw [h]

theorem bsz (y : List UInt8) : (⟨y.toArray⟩ : ByteArray).size = y.length := by simp [ByteArray.size]
end Go.Proofs.YtjeihicjfgimdaaGreatDoor.Tgs

/-
  CONTRACT of the program's ParseTag; nothing that was there before is changed.
-/
namespace Go.Proofs.YtjeihicjfgimdaaGreatDoor.Tgs
open Go Go.RowKit
set_option linter.unusedVariables false
set_option maxRecDepth 1000000

def ParEnd (l : List UInt8) (w : World) (e : Ending) (w' : World) : Prop := e = .returned (.tuple #[.agg #[.bool (ptag l).1.1, .string ⟨(ptag l).1.2.toArray⟩], .bool (ptag l).2]) ∧ Below w.heap.size w w'
theorem par_ret {l : List UInt8} {x b : Bool} {t : List UInt8} (h : ptag l = ((x, t), b)) : Ending.returned (.tuple #[.agg #[.bool x, .string ⟨t.toArray⟩], .bool b]) = .returned (.tuple #[.agg #[.bool (ptag l).1.1, .string ⟨(ptag l).1.2.toArray⟩], .bool (ptag l).2]) := by rw [h]
/-- Two blocks of the call's own, kept by what follows. -/
theorem kept22 {w w1 : World} {T : TypeId} {a b c d : Value} (hb : Below ((w.alloc (.cells #[a, b] T)).alloc (.cells #[c, d] T)).heap.size ((w.alloc (.cells #[a, b] T)).alloc (.cells #[c, d] T)) w1) :
    (w1.cell? ⟨w.heap.size, 0, none⟩ = some a ∧ w1.cell? ⟨w.heap.size, 1, none⟩ = some b ∧ w1.cell? ⟨w.heap.size + 1, 0, none⟩ = some c ∧ w1.cell? ⟨w.heap.size + 1, 1, none⟩ = some d) ∧ (w1.frozen? ⟨w.heap.size, 0, none⟩ = false ∧ w1.frozen? ⟨w.heap.size, 1, none⟩ = false) ∧ Below w.heap.size w w1 := by
  have h1 : Below (w.alloc (.cells #[a, b] T)).heap.size (w.alloc (.cells #[a, b] T)) w1 := ((Below.refl _ _).alloc (Nat.le_refl _) _).trans (hb.mono (by simp))
  refine ⟨⟨?_, ?_, ?_, ?_⟩, ⟨?_, ?_⟩, ((Below.refl _ _).alloc (Nat.le_refl _) _).trans (h1.mono (by simp))⟩
  · rw [h1.cell (p := ⟨w.heap.size, 0, none⟩) (by simp), World.cell?_alloc_new]; rfl
  · rw [h1.cell (p := ⟨w.heap.size, 1, none⟩) (by simp), World.cell?_alloc_new]; rfl
  · rw [hb.cell (p := ⟨w.heap.size + 1, 0, none⟩) (by simp), World.cell?_alloc_at _ _ _ _ (by simp)]; rfl
  · rw [hb.cell (p := ⟨w.heap.size + 1, 1, none⟩) (by simp), World.cell?_alloc_at _ _ _ _ (by simp)]; rfl
  · rw [h1.frozen (p := ⟨w.heap.size, 0, none⟩) (by simp)]; simp [go_sem]
  · rw [h1.frozen (p := ⟨w.heap.size, 1, none⟩) (by simp)]; simp [go_sem]
theorem trimp_len (l p : List UInt8) : (Lib.trimPrefix l p).length ≤ l.length := by unfold Lib.trimPrefix; split <;> simp
theorem trims_len (l p : List UInt8) : (Lib.trimSuffix l p).length ≤ l.length := by unfold Lib.trimSuffix; split <;> simp

/-- What stands between two quotes, by the text's bytes. -/
theorem inner_yes {s : ByteArray} (h2 : 2 ≤ s.size) (ha : s[0] = 34) (hz : s[s.size - 1] = 34) : inner s.data.toList = (true, (s.extract 1 (s.size - 1)).data.toList) := by
  obtain ⟨⟨l⟩⟩ := s
  have hl : (⟨⟨l⟩⟩ : ByteArray).size = l.length := rfl
  rw [hl] at h2
  have e0 : l.head? = some 34 := by
    cases l with
    | nil => simp at h2
    | cons a t => have ha' : a = 34 := ha; simp [ha']
  have e1 : l.getLast? = some 34 := by
    rw [List.getLast?_eq_getElem?]
    have hlt : l.length - 1 < l.length := by omega
    rw [List.getElem?_eq_getElem hlt]
    exact congrArg some hz
  unfold inner
  rw [Lib.extract_data]
  show (decide (2 ≤ l.length) && (l.head? == some 34 && l.getLast? == some 34), (l.drop 1).take (l.length - 2)) = (true, (l.drop 1).take (l.length - 1 - 1))
  rw [e0, e1, show l.length - 1 - 1 = l.length - 2 by omega]
  simp [h2]
theorem inner_no {s : ByteArray} (h : s.size < 2 ∨ (∃ h0 : 0 < s.size, s[0] ≠ 34) ∨ ∃ h0 : s.size - 1 < s.size, s[s.size - 1] ≠ 34) : (inner s.data.toList).1 = false := by
  obtain ⟨⟨l⟩⟩ := s
  unfold inner
  show (decide (2 ≤ l.length) && (l.head? == some 34 && l.getLast? == some 34)) = false
  rcases h with h | ⟨h0, h⟩ | ⟨h0, h⟩
  · have h' : l.length < 2 := h
    have : decide (2 ≤ l.length) = false := by simp; omega
    rw [this, Bool.false_and]
  · have : (l.head? == some 34) = false := by
      cases l with
      | nil => rfl
      | cons a t =>
        have ha : a ≠ 34 := h
        simp [ha]
    rw [this, Bool.false_and, Bool.and_false]
  · have : (l.getLast? == some 34) = false := by
      rw [List.getLast?_eq_getElem?]
      have hlt : l.length - 1 < l.length := h0
      rw [List.getElem?_eq_getElem hlt]
      have ha : l[l.length - 1] ≠ 34 := h
      simp [ha]
    rw [this, Bool.and_false, Bool.and_false]

end Go.Proofs.YtjeihicjfgimdaaGreatDoor.Tgs

/-
  CONTRACT of the model's ParseTag; nothing that was there before is changed.
-/
namespace Go.Proofs.YtjeihicjfgimdaaGreatDoor.Tgs
open Go Go.RowKit
set_option linter.unusedVariables false
set_option maxRecDepth 1000000

theorem ptag_small {l : List UInt8} (h : l.length ≤ 2) : ptag l = if (inner l).1 && okt (inner l).2 then ((false, (inner l).2), true) else ((false, []), false) := by
  by_cases hw : 2 ≤ l.length ∧ l.take 2 = [87, 47]
  · have e : l = [87, 47] := by rw [← hw.2]; exact (List.take_of_length_le h).symm
    subst e; decide
  · exact ptag_strong hw
theorem cut2 (s : ByteArray) : (s.extract 0 2).toList = s.data.toList.take 2 := by rw [Lib.extract_toList]; simp
theorem cut2' (s : ByteArray) : (s.extract 2 s.size).data.toList = s.data.toList.drop 2 := by
  rw [Lib.extract_data, List.take_of_length_le (by rw [List.length_drop, list_len]; omega)]

end Go.Proofs.YtjeihicjfgimdaaGreatDoor.Tgs

/-
  CONTRACTS of both sides' StrongSame and WeakSame; nothing that was there before is changed.
-/
namespace Go.Proofs.YtjeihicjfgimdaaGreatDoor.Tgs
open Go Go.RowKit
set_option linter.unusedVariables false
set_option maxRecDepth 1000000

def samestrong (f g : T) : Bool := !f.1 && (!g.1 && f.2 == g.2)
def sameweak (f g : T) : Bool := f.2 == g.2
theorem two_boxes (w : World) (a b : Array Value) (T1 : TypeId) : Below w.heap.size w ((w.alloc (.cells a T1)).alloc (.cells b T1)) := ((Below.refl _ _).alloc (Nat.le_refl _) _).alloc (by simp) _
theorem text_ne {y v : List UInt8} (h : y ≠ v) : ((⟨y.toArray⟩ : ByteArray) = ⟨v.toArray⟩) = False := by
  apply eq_false; intro e
  apply h
  have := congrArg (fun s : ByteArray => s.data.toList) e
  simpa using this

end Go.Proofs.YtjeihicjfgimdaaGreatDoor.Tgs
