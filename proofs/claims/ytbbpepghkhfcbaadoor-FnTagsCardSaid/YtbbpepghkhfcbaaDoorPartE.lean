/-
  CONTRACTS AND PLAIN FACTS, several texts in one; each says in its own words what it proves.
-/
import Derived.Test.YtbbpepghkhfcbaaDoorPartD
import Derived.Test.YtbbpepghkhfcbaaDoorPartB
import Derived.Lib.Strings
import Derived.Test.YtbbpepghkhfcbaaDoorRows
import Derived.WalkKit
import Derived.ProofKit
import Derived.Lib.Hide
import Derived.OpenShut
set_option linter.unusedSimpArgs false
set_option linter.unusedVariables false

/-
  PLAIN FACTS on the bytes of a text, one by one.
-/
namespace Go.Proofs.YtbbpepghkhfcbaaDoor.Tx
open Go
set_option linter.unusedVariables false
set_option maxRecDepth 1000000

theorem take_snoc (s : ByteArray) (k : Nat) (h : k < s.size) : s.data.toList.take (k + 1) = s.data.toList.take k ++ [s[k]] := by
  rw [List.take_succ_eq_append_getElem (by simpa using h)]; rfl
theorem drop_cons (s : ByteArray) (k : Nat) (h : k < s.size) : s.data.toList.drop k = s[k] :: s.data.toList.drop (k + 1) := by
  rw [List.drop_eq_getElem_cons (by simpa using h)]; rfl
theorem list_len (s : ByteArray) : s.data.toList.length = s.size := by rw [Array.length_toList]; rfl
theorem eq_nat {c : UInt8} {n : Nat} (hn : n < 256) : ((c.toNat : Int) == (n : Int)) = (c == UInt8.ofNat n) := by
  rw [Bool.eq_iff_iff, beq_iff_eq, beq_iff_eq]
  constructor
  · intro h; exact UInt8.toNat_inj.1 (by simp; omega)
  · intro h; rw [h]; simp; omega
theorem e34 (c : UInt8) : ((c.toNat : Int) == 34) = (c == 34) := eq_nat (n := 34) (by omega)
theorem e92 (c : UInt8) : ((c.toNat : Int) == 92) = (c == 92) := eq_nat (n := 92) (by omega)
theorem e44 (c : UInt8) : ((c.toNat : Int) == 44) = (c == 44) := eq_nat (n := 44) (by omega)

end Go.Proofs.YtbbpepghkhfcbaaDoor.Tx

/-
  PLAIN FACTS on slices of Tag (written by rec.py): what a slice holds, how that is kept, and how a slice that the call itself has built is such a one.
-/
namespace Go.Proofs.YtbbpepghkhfcbaaDoor.Tgs
open Go Go.RowKit
set_option linter.unusedVariables false
set_option maxRecDepth 1000000

theorem info_r : (Tryd.prog.info? 25).map (fun i => (i.zero, i.size, i.bytes)) = some (some (.agg #[.bool false, .string ⟨#[]⟩]), 2, 24) := by kernel_rfl

abbrev T : Type := Bool × List UInt8
def nov : T := (false, [])
def cs (f : T) : List Value := [.bool (f.1), .string ⟨(f.2).toArray⟩]
def fv (f : T) : Value := .agg #[.bool (f.1), .string ⟨(f.2).toArray⟩]
theorem cs_len (f : T) : (cs f).length = 2 := rfl
theorem cs_one (f : T) : ∀ u ∈ cs f, u.oneCell' = true := by
  intro u hu; simp [cs] at hu; rcases hu with rfl | rfl <;> rfl
def fcs (l : List T) : List Value := Rec.flat cs l
theorem fcs_len (l : List T) : (fcs l).length = l.length * 2 := Rec.flat_len cs_len l
theorem fcs_more (l : List T) (f : T) : fcs (l ++ [f]) = fcs l ++ [.bool (f.1), .string ⟨(f.2).toArray⟩] := Rec.flat_more l f
theorem fcs_one (l : List T) : ∀ u ∈ fcs l, u.oneCell' = true := Rec.flat_one cs_one l
theorem fcs_put {l : List T} {k : Nat} (f : T) (h : k < l.length) : ((fcs l).set (k * 2) (.bool (f.1))).set (k * 2 + 1) (.string ⟨(f.2).toArray⟩) = fcs (l.set k f) := Rec.flat_put cs_len f h
def Ok (f : T) : Prop := f.2.length ≤ maxLen
/-- The cells from (b, off) on are these. -/
def At (w : World) (b off : Nat) (l : List T) : Prop := Rec.At 2 cs nov w b off l
/-- The slice v reads as l; its cells lie below block B. -/
def Holds (w : World) (B : Nat) (v : Value) (l : List T) : Prop := Rec.Holds 2 cs nov w B v l
abbrev Own (w : World) (B : Nat) (v : Value) (l : List T) : Prop := w.ownsRow B 25 2 v l.length (fcs l)
theorem holds_iff {w : World} {B : Nat} {v : Value} {l : List T} (h : Holds w B v l) : (l = [] ∧ ∃ a cap, v = .slice a 0 cap) ∨ (0 < l.length ∧ ∃ b off cap, v = .slice (some ⟨b, off, none⟩) l.length cap ∧ b < B ∧ l.length ≤ cap ∧ At w b off l) := h
theorem holds_nil (w : World) (B : Nat) (a : Option Addr) (cap : Nat) : Holds w B (.slice a 0 cap) [] := Or.inl ⟨rfl, _, _, rfl⟩
theorem at_cells {w : World} {b off : Nat} {l : List T} (h : At w b off l) {j : Nat} (hj : j < l.length) : w.cell? ⟨b, off + j * 2, none⟩ = some (.bool ((l.getD j nov).1)) ∧ w.cell? ⟨b, off + j * 2 + 1, none⟩ = some (.string ⟨((l.getD j nov).2).toArray⟩) := ⟨h j hj 0 _ rfl, h j hj 1 _ rfl⟩
theorem at_lt {w : World} {b off : Nat} {l : List T} (h : At w b off l) (h0 : 0 < l.length) : b < w.heap.size := Rec.at_lt cs_len (by decide) h h0
theorem at_below {w w' : World} {B b off : Nat} {l : List T} (h : At w b off l) (hb : Below B w w') (hlt : b < B) : At w' b off l := Rec.at_below h hb hlt
theorem holds_more {w : World} {B B' : Nat} {v : Value} {l : List T} (h : Holds w B v l) (hB : B ≤ B') : Holds w B' v l := Rec.holds_more h hB
theorem holds_below {w w' : World} {B : Nat} {v : Value} {l : List T} (h : Holds w B v l) (hb : Below B w w') : Holds w' B v l := Rec.holds_below h hb
theorem holds_grown {w w' : World} {B : Nat} {v : Value} {l : List T} {row : Option Nat} (h : Holds w B v l) (hg : w.grownBy w' row) (hr : ∀ k, row = some k → B ≤ k) : Holds w' B v l := Rec.holds_grown h hg hr
theorem own_len {w : World} {B : Nat} {v : Value} {l : List T} {n : Nat} (h : w.ownsRow B 25 2 v n (fcs l)) : n = l.length := Rec.own_len cs_len (by decide) h
theorem own_cells {w : World} {B g cap : Nat} {l : List T} {n : Nat} (h : w.ownsRow B 25 2 (.slice (some ⟨g, 0, none⟩) n cap) n (fcs l)) {j : Nat} (hj : j < n) : w.cell? ⟨g, j * 2, none⟩ = some (.bool ((l.getD j nov).1)) ∧ w.cell? ⟨g, j * 2 + 1, none⟩ = some (.string ⟨((l.getD j nov).2).toArray⟩) :=
  ⟨Rec.own_cell (z := nov) (i := 0) cs_len (by decide) h hj rfl, Rec.own_cell (z := nov) (i := 1) cs_len (by decide) h hj rfl⟩
theorem own_holds {w : World} {B : Nat} {v : Value} {l : List T} (h : Own w B v l) : Holds w w.heap.size v l := Rec.own_holds cs_len (by decide) h
theorem own_mono {w : World} {B B' : Nat} {v : Value} {l : List T} (h : Own w B v l) (hB : B' ≤ B) : Own w B' v l := Rec.own_mono h hB
theorem row_below {w w' : World} {B n : Nat} {v : Value} {xs : List Value} (h : w.ownsRow B 25 2 v n xs) (hb : Below w.heap.size w w') : w'.ownsRow B 25 2 v n xs := Rec.row_below h hb
theorem row_grown {w w' : World} {B n : Nat} {v : Value} {xs : List Value} {row : Option Nat} (h : w.ownsRow B 25 2 v n xs) (hg : w.grownBy w' row) (hr : ∀ g, v.ownBlock = some g → some g ≠ row) : w'.ownsRow B 25 2 v n xs := Rec.row_grown h hg hr
theorem push_own {B : Nat} {a w w1 : World} {v v' : Value} {l : List T} {f : T} {o : Obj} (hown : Own w B v l) (hb : Below a.heap.size a w) (hB : a.heap.size ≤ B)
    (h' : w1.ownsRow B 25 2 v' (l.length + 1) (fcs l ++ [.bool (f.1), .string ⟨(f.2).toArray⟩])) (hg : (w.alloc o).grownBy w1 v.ownBlock) : Own w1 B v' (l ++ [f]) ∧ Below a.heap.size a w1 := Rec.push_own hown hb hB h' hg
theorem own_lit_nil (w : World) : Own (w.alloc (.cells #[] 25)) w.heap.size (.slice (some ⟨w.heap.size, 0, none⟩) 0 0) [] := Rec.own_lit_nil w _
theorem holds_drew {w : World} {B : Nat} {v : Value} {l : List T} (h : Holds w B v l) : Holds w.drew B v l := h
theorem row_drew {w : World} {B n : Nat} {v : Value} {xs : List Value} (h : w.ownsRow B 25 2 v n xs) : w.drew.ownsRow B 25 2 v n xs := h
def part (l : List T) (k : Nat) : List T := Rec.part nov l k
theorem part_len (l : List T) {k : Nat} (h : k ≤ l.length) : (part l k).length = l.length := Rec.part_len l h
theorem part_all (l : List T) : part l l.length = l := Rec.part_all l
theorem part_more {l : List T} {k : Nat} (h : k < l.length) : (part l k).set k (l.getD k nov) = part l (k + 1) := Rec.part_more h
theorem made_part (l : List T) : (madeCells (Value.agg #[.bool false, .string ⟨#[]⟩]).cells (l.length * 2)).toList = fcs (part l 0) := Rec.made_part cs_len (by decide) l _ rfl
def wt (f : T) : Nat := f.2.length
def total (l : List T) : Nat := Rec.total wt l
theorem len_le_total (l : List T) : l.length ≤ total l := Rec.len_le_total wt l
theorem mem_total {l : List T} {f : T} (h : f ∈ l) : wt f ≤ total l := Rec.mem_total wt h
end Go.Proofs.YtbbpepghkhfcbaaDoor.Tgs

/-
  PLAIN FACTS on the texts of entity tags: which bytes may stand in one, how a tag is written, how it is read.
-/
namespace Go.Proofs.YtbbpepghkhfcbaaDoor.Tgs
open Go Go.RowKit
set_option linter.unusedVariables false
set_option maxRecDepth 1000000

def tgc (c : UInt8) : Bool := decide (33 ≤ c.toNat ∧ c.toNat ≤ 126) && !(c == 34)
def okt (l : List UInt8) : Bool := l.all tgc && decide (l.length ≤ 40)
theorem tgc_no {c : UInt8} (h : tgc c = false) : ((c.toNat : Int) < 33 ∨ 126 < (c.toNat : Int)) ∨ ((33 ≤ (c.toNat : Int) ∧ (c.toNat : Int) ≤ 126) ∧ c = 34) := by
  unfold tgc at h
  by_cases a : 33 ≤ c.toNat ∧ c.toNat ≤ 126
  · right
    refine ⟨by omega, ?_⟩
    simpa [a] using h
  · left; omega
theorem tgc_yes {c : UInt8} (h : tgc c = true) : (33 ≤ (c.toNat : Int) ∧ (c.toNat : Int) ≤ 126) ∧ (c.toNat : Int) ≠ 34 := by
  unfold tgc at h
  rw [Bool.and_eq_true] at h
  have h1 := of_decide_eq_true h.1
  refine ⟨by omega, fun e => ?_⟩
  have : c = 34 := UInt8.toNat_inj.1 (by show c.toNat = 34; omega)
  rw [this] at h; simp at h
theorem list_len (s : ByteArray) : s.data.toList.length = s.size := by rw [Array.length_toList]; rfl
theorem tgc_more {s : ByteArray} {k : Nat} (h : k < s.size) (ha : (s.data.toList.take k).all tgc = true) (hc : tgc s[k] = true) : (s.data.toList.take (k + 1)).all tgc = true := by
  rw [Tx.take_snoc s k h, List.all_append, ha, List.all_cons, hc]; rfl
theorem okt_bad {s : ByteArray} {k : Nat} (h : k < s.size) (hc : tgc s[k] = false) : okt s.data.toList = false := by
  unfold okt
  have : s.data.toList.all tgc = false := by
    rw [Bool.eq_false_iff]
    intro ha
    have hm : s[k] ∈ s.data.toList := by
      rw [← List.take_append_drop k s.data.toList, Tx.drop_cons s k h]; simp
    rw [List.all_eq_true] at ha
    have := ha _ hm
    rw [hc] at this; cases this
  rw [this, Bool.false_and]
theorem okt_all {s : ByteArray} {k : Nat} (h : k = s.size) (ha : (s.data.toList.take k).all tgc = true) : okt s.data.toList = decide ((s.size : Int) ≤ 40) := by
  have e : s.data.toList.take k = s.data.toList := List.take_of_length_le (by rw [list_len]; omega)
  rw [e] at ha
  unfold okt
  rw [ha, Bool.true_and, list_len, Bool.eq_iff_iff]; simp; omega
theorem okt_long {s : ByteArray} (h : 40 < s.size) : okt s.data.toList = false := by
  unfold okt
  rw [list_len]
  have : decide (s.size ≤ 40) = false := by simp; omega
  rw [this, Bool.and_false]
/-- How a tag is written. -/
def ftag (f : T) : List UInt8 := if okt f.2 then (if f.1 then [87, 47, 34] ++ f.2 ++ [34] else [34] ++ f.2 ++ [34]) else []
theorem ftag_no {x : Bool} {y : List UInt8} (h : okt y = false) : ftag (x, y) = [] := by unfold ftag; simp [h]
theorem ftag_weak {y : List UInt8} (h : okt y = true) : ftag (true, y) = [87, 47, 34] ++ y ++ [34] := by unfold ftag; simp [h]
theorem ftag_strong {y : List UInt8} (h : okt y = true) : ftag (false, y) = [34] ++ y ++ [34] := by unfold ftag; simp [h]
/-- How a tag is read. -/
def ptag (l : List UInt8) : T × Bool :=
  if Lib.hasPrefix (Lib.trimPrefix l [87, 47]) [34] && (Lib.hasSuffix (Lib.trimPrefix (Lib.trimPrefix l [87, 47]) [34]) [34] && okt (Lib.trimSuffix (Lib.trimPrefix (Lib.trimPrefix l [87, 47]) [34]) [34]))
  then ((Lib.hasPrefix l [87, 47], Lib.trimSuffix (Lib.trimPrefix (Lib.trimPrefix l [87, 47]) [34]) [34]), true) else ((false, []), false)
/-- What stands between two quotes. -/
def inner (r : List UInt8) : Bool × List UInt8 := (decide (2 ≤ r.length) && (r.head? == some 34 && r.getLast? == some 34), (r.drop 1).take (r.length - 2))
theorem inner_lib (r : List UInt8) : (Lib.hasPrefix r [34] && Lib.hasSuffix (Lib.trimPrefix r [34]) [34]) = (inner r).1 ∧ ((inner r).1 = true → Lib.trimSuffix (Lib.trimPrefix r [34]) [34] = (inner r).2) := by
  cases r with
  | nil => exact ⟨by decide, by intro h; exact absurd h (by decide)⟩
  | cons a t =>
    by_cases ha : a = 34
    · subst ha
      have hp : Lib.hasPrefix (34 :: t) [34] = true := by simp [Lib.hasPrefix, List.isPrefixOf]
      have ht : Lib.trimPrefix (34 :: t) [34] = t := by unfold Lib.trimPrefix; rw [if_pos hp]; rfl
      rw [hp, ht, Bool.true_and]
      rcases List.eq_nil_or_concat t with rfl | ⟨m, b, rfl⟩
      · exact ⟨by decide, by intro h; exact absurd h (by decide)⟩
      · simp only [List.concat_eq_append]
        have hs : Lib.hasSuffix (m ++ [b]) [34] = (b == 34) := by
          rw [Bool.eq_iff_iff]
          unfold Lib.hasSuffix
          rw [List.isSuffixOf_iff_suffix]
          constructor
          · rintro ⟨q, hq⟩
            have := List.append_inj_right' hq.symm rfl
            simp at this; simp [this]
          · intro h
            have : b = 34 := by simpa using h
            subst this; exact ⟨m, rfl⟩
        have hi : (inner (34 :: (m ++ [b]))).1 = (b == 34) := by
          unfold inner
          have : (34 :: (m ++ [b]) : List UInt8).getLast? = some b := by
            rw [show (34 :: (m ++ [b]) : List UInt8) = (34 :: m) ++ [b] by rfl, List.getLast?_append]; rfl
          simp only [this]
          simp
        refine ⟨by rw [hs, hi], fun h => ?_⟩
        rw [hi] at h
        have : b = 34 := by simpa using h
        subst this
        unfold Lib.trimSuffix
        rw [if_pos (by rw [hs]; rfl)]
        unfold inner
        simp
    · have hp : Lib.hasPrefix (a :: t) [34] = false := by
        have : (34 == a) = false := by rw [beq_eq_false_iff_ne]; exact fun e => ha e.symm
        simp [Lib.hasPrefix, List.isPrefixOf, this]
      rw [hp, Bool.false_and]
      have hi : (inner (a :: t)).1 = false := by
        unfold inner
        have : ((a :: t).head? == some 34) = false := by simp [ha]
        rw [this, Bool.false_and, Bool.and_false]
      exact ⟨hi.symm, fun h => by rw [hi] at h; cases h⟩
theorem ptag_inner (l : List UInt8) : ptag l = if (inner (Lib.trimPrefix l [87, 47])).1 && okt (inner (Lib.trimPrefix l [87, 47])).2 then ((Lib.hasPrefix l [87, 47], (inner (Lib.trimPrefix l [87, 47])).2), true) else ((false, []), false) := by
  unfold ptag
  obtain ⟨h1, h2⟩ := inner_lib (Lib.trimPrefix l [87, 47])
  rw [← Bool.and_assoc, h1]
  by_cases h : (inner (Lib.trimPrefix l [87, 47])).1 = true
  · rw [h2 h]
  · have : (inner (Lib.trimPrefix l [87, 47])).1 = false := by simpa using h
    rw [this, Bool.false_and, Bool.false_and]; rfl
theorem prefix_at (l : List UInt8) : Lib.hasPrefix l [87, 47] = (decide (2 ≤ l.length) && (l.take 2 == [87, 47])) := (Lib.hasPrefix_of_take l [87, 47]).symm
/-- The tag of a text, by what stands where. -/
theorem ptag_weak {l : List UInt8} (h2 : 2 ≤ l.length) (h : l.take 2 = [87, 47]) : ptag l = if (inner (l.drop 2)).1 && okt (inner (l.drop 2)).2 then ((true, (inner (l.drop 2)).2), true) else ((false, []), false) := by
  have hp : Lib.hasPrefix l [87, 47] = true := by rw [prefix_at, h]; simp [h2]
  have ht : Lib.trimPrefix l [87, 47] = l.drop 2 := by unfold Lib.trimPrefix; rw [if_pos hp]; rfl
  rw [ptag_inner, ht, hp]
theorem ptag_strong {l : List UInt8} (h : ¬ (2 ≤ l.length ∧ l.take 2 = [87, 47])) : ptag l = if (inner l).1 && okt (inner l).2 then ((false, (inner l).2), true) else ((false, []), false) := by
  have hp : Lib.hasPrefix l [87, 47] = false := by
    rw [prefix_at]
    by_cases h2 : 2 ≤ l.length
    · have h3 : l.take 2 ≠ [87, 47] := fun e => h ⟨h2, e⟩
      have : (l.take 2 == [87, 47]) = false := by simpa using h3
      rw [this, Bool.and_false]
    · have : decide (2 ≤ l.length) = false := by simpa using h2
      rw [this, Bool.false_and]
  have ht : Lib.trimPrefix l [87, 47] = l := by unfold Lib.trimPrefix; rw [hp]; rfl
  rw [ptag_inner, ht, hp]
end Go.Proofs.YtbbpepghkhfcbaaDoor.Tgs

/-
  PLAIN FACTS OF NUMBERS that the contracts of chapter 1 lean on: remainder and quotient rounded down, and Go's own. No word of the program stands here.
-/
namespace Go.Proofs.YtbbpepghkhfcbaaDoor.NumDiv
open Go Go.RowKit
set_option linter.unusedVariables false
set_option maxRecDepth 1000000

/-- Go's remainder, made not negative; 0 for a divisor out of range. -/
def md (n m : Int) : Int := if 1 ≤ m ∧ m ≤ 1000000000000 then n % m else 0
/-- the quotient rounded down; 0 for a divisor out of range. -/
def fd (n m : Int) : Int := if 1 ≤ m ∧ m ≤ 1000000000000 then n / m else 0

theorem md_out {n m : Int} (h : m < 1 ∨ 1000000000000 < m) : md n m = 0 := by unfold md; rw [if_neg (by omega)]
theorem fd_out {n m : Int} (h : m < 1 ∨ 1000000000000 < m) : fd n m = 0 := by unfold fd; rw [if_neg (by omega)]
theorem md_in {n m : Int} (h : 1 ≤ m) (h2 : m ≤ 1000000000000) : md n m = n % m := by unfold md; rw [if_pos ⟨h, h2⟩]
theorem fd_in {n m : Int} (h : 1 ≤ m) (h2 : m ≤ 1000000000000) : fd n m = n / m := by unfold fd; rw [if_pos ⟨h, h2⟩]

theorem tmod_bd (n m : Int) (h : 1 ≤ m) : -m < n.tmod m ∧ n.tmod m < m := by
  constructor
  · exact Int.lt_tmod_of_pos n (by omega)
  · exact Int.tmod_lt_of_pos n (by omega)
theorem tmod_split (n m : Int) (h : 1 ≤ m) : n.tmod m = n % m ∨ (0 < n % m ∧ n.tmod m = n % m - m) := by
  have e := Int.tmod_eq_emod (a := n) (b := m)
  have p := Int.emod_nonneg n (show m ≠ 0 by omega)
  by_cases c : 0 ≤ n ∨ m ∣ n
  · rw [if_pos c] at e; left; rw [e]; simp
  · rw [if_neg c] at e
    right
    have hz : n % m ≠ 0 := fun z => c (Or.inr (Int.dvd_of_emod_eq_zero z))
    exact ⟨by omega, by omega⟩
theorem tmod_neg_emod {n m : Int} (h : 1 ≤ m) (hr : n.tmod m < 0) : n.tmod m + m = n % m := by
  have p := Int.emod_nonneg n (show m ≠ 0 by omega)
  rcases tmod_split n m h with e | ⟨_, e⟩ <;> omega
theorem tmod_pos_emod {n m : Int} (h : 1 ≤ m) (hr : 0 ≤ n.tmod m) : n.tmod m = n % m := by
  have p := Int.emod_lt_of_pos n (show 0 < m by omega)
  rcases tmod_split n m h with e | ⟨_, e⟩ <;> omega
theorem tdiv_neg {n m : Int} (h : 1 ≤ m) (hr : n.tmod m < 0) : n.tdiv m - 1 = n / m := by
  have e := tmod_neg_emod h hr
  have a := Int.mul_tdiv_add_tmod n m
  have b := Int.mul_ediv_add_emod n m
  have : m * (n.tdiv m - 1) = m * (n / m) := by rw [Int.mul_sub]; omega
  exact Int.eq_of_mul_eq_mul_left (show m ≠ 0 by omega) this
theorem tdiv_pos {n m : Int} (h : 1 ≤ m) (hr : 0 ≤ n.tmod m) : n.tdiv m = n / m := by
  have e := tmod_pos_emod h hr
  have a := Int.mul_tdiv_add_tmod n m
  have b := Int.mul_ediv_add_emod n m
  have : m * (n.tdiv m) = m * (n / m) := by omega
  exact Int.eq_of_mul_eq_mul_left (show m ≠ 0 by omega) this

theorem q_bd' (n m : Int) (h : 1 ≤ m) (a : -9223372036854775808 ≤ n) (b : n ≤ 9223372036854775807) : -9223372036854775808 ≤ n / m ∧ n / m ≤ 9223372036854775807 := by
  constructor
  · refine Int.le_ediv_of_mul_le (by omega) ?_
    have : (-9223372036854775808 : Int) * m ≤ -9223372036854775808 * 1 := Int.mul_le_mul_of_nonpos_left (by omega) h
    omega
  · by_cases z : 0 ≤ n
    · have := Int.ediv_le_self m z; omega
    · have := Int.ediv_neg_of_neg_of_pos (show n < 0 by omega) (show 0 < m by omega); omega
theorem q_bd (n m : Int) (h : 1 ≤ m) (a : -9223372036854775808 ≤ n) (b : n ≤ 9223372036854775807) : -9223372036854775808 ≤ n.tdiv m ∧ n.tdiv m ≤ 9223372036854775807 := by
  have c := q_bd' n m h a b
  by_cases hr : n.tmod m < 0
  · have d := tdiv_neg h hr
    have e : n < 0 := by
      by_cases z : 0 ≤ n
      · have := Int.tmod_nonneg m z; omega
      · omega
    have := Int.ediv_neg_of_neg_of_pos e (show 0 < m by omega)
    omega
  · rw [tdiv_pos h (by omega)]; exact c
theorem ret_int {k : IntKind} {a b : Int} (h : a = b) : Ending.returned (.int k a) = .returned (.int k b) := by rw [h]
end Go.Proofs.YtbbpepghkhfcbaaDoor.NumDiv

/-
  CONTRACT of the model's small test l1In: whether a number lies between two others; the world stays as it was.
-/
namespace Go.Proofs.YtbbpepghkhfcbaaDoor.NumDiv
open Go Go.RowKit
set_option linter.unusedVariables false
set_option maxRecDepth 1000000

theorem in_yes (x lo hi : Int) (w : World) (h1 : lo ≤ x) (h2 : x ≤ hi) :
    Calls Tryd.prog 26 #[.int .i64 x, .int .i64 lo, .int .i64 hi] w fun e w' => e = .returned (.bool true) ∧ w = w' := by
  go_enter Tryd.func26, Tryd.ntmps26
  go_wp2
  go_ret
  exact ⟨rfl, rfl⟩
theorem in_no (x lo hi : Int) (w : World) (h : x < lo ∨ hi < x) :
    Calls Tryd.prog 26 #[.int .i64 x, .int .i64 lo, .int .i64 hi] w fun e w' => e = .returned (.bool false) ∧ w = w' := by
  by_cases h1 : lo ≤ x
  · have h2 : ¬ x ≤ hi := by omega
    clear h
    go_enter Tryd.func26, Tryd.ntmps26
    go_wp2
    go_ret
    exact ⟨rfl, rfl⟩
  · clear h
    go_enter Tryd.func26, Tryd.ntmps26
    go_wp2
    go_ret
    exact ⟨rfl, rfl⟩
end Go.Proofs.YtbbpepghkhfcbaaDoor.NumDiv
