/-
  PLAIN FACTS: the parts of a page; no world.
-/
import Derived.Test.YtkedndamkjnmkaaGreatDoorPrt
import Derived.Test.YtkedndamkjnmkaaGreatDoorNtV
import Derived.Lib.IndexMore
namespace Go.Proofs.YtkedndamkjnmkaaGreatDoor.Prt
open Go Go.RowKit
set_option linter.unusedVariables false
set_option maxRecDepth 1000000

abbrev occ (a b : UInt8) (l : List UInt8) (j : Nat) : Bool := Lib.occAt l [a, b] j
theorem occ_two (a b : UInt8) {s : ByteArray} {k : Nat} (h : k + 1 < s.size) : occ a b s.data.toList k = ((s.extract k (k + 2)).toList == [a, b]) := by
  unfold occ Lib.occAt
  rw [ByteArray.toList_eq, Tx.ext_eq]
  simp only [show k + 2 - k = 2 by omega]
  rw [Bool.eq_iff_iff, List.isPrefixOf_iff_prefix, List.prefix_iff_eq_take, beq_iff_eq]
  exact ⟨fun h => h.symm, fun h => h.symm⟩
theorem occ_drop (a b : UInt8) (l : List UInt8) (p j : Nat) : occ a b (l.drop p) j = occ a b l (p + j) := by unfold occ Lib.occAt; rw [List.drop_drop]
/-- The first place of the two bytes from p on, or -1. -/
def fnd (a b : UInt8) (l : List UInt8) (p : Nat) : Int := if 0 ≤ Lib.index (l.drop p) [a, b] then (p : Int) + Lib.index (l.drop p) [a, b] else -1
theorem fnd_hit {a b : UInt8} {l : List UInt8} {p k : Nat} (hp : p ≤ k) (hk : k + 1 < l.length) (h : occ a b l k = true) (hn : ∀ j, p ≤ j → j < k → occ a b l j = false) : fnd a b l p = (k : Int) := by
  have e : Lib.index (l.drop p) [a, b] = ((k - p : Nat) : Int) := Lib.index_first (by rw [List.length_drop]; omega) (by show occ a b (l.drop p) (k - p) = true; rw [occ_drop, show p + (k - p) = k by omega]; exact h) (fun j hj => by show occ a b (l.drop p) j = false; rw [occ_drop]; exact hn _ (by omega) (by omega))
  unfold fnd
  rw [e, if_pos (by omega)]; omega
theorem fnd_miss {a b : UInt8} {l : List UInt8} {p : Nat} (hn : ∀ j, p ≤ j → j + 1 < l.length → occ a b l j = false) : fnd a b l p = -1 := by
  have e : Lib.index (l.drop p) [a, b] = -1 := Lib.index_none (fun j hj => by
    show occ a b (l.drop p) j = false
    rw [List.length_drop] at hj
    rw [occ_drop]
    by_cases h : p + j + 1 < l.length
    · exact hn _ (by omega) h
    · cases ho : occ a b l (p + j) with
      | false => rfl
      | true => rcases Lib.occAt_room ho with h1 | h1
                · simp at h1; omega
                · cases h1)
  unfold fnd
  rw [e, if_neg (by omega)]
def has2 (a b : UInt8) (l : List UInt8) : Bool := Lib.contains l [a, b]
theorem has2_fnd (a b : UInt8) (l : List UInt8) : has2 a b l = decide (0 ≤ fnd a b l 0) := by
  unfold has2 Lib.contains fnd
  rw [List.drop_zero]
  split
  · rename_i h; rw [decide_eq_true h, decide_eq_true (by omega)]
  · rename_i h; rw [decide_eq_false h, decide_eq_false (by omega)]
/-- A part that may stand in a page. -/
def pok (f : T) : Bool := if f.1 = 1 then (!f.2.isEmpty) && !(has2 60 37 f.2) else if f.1 = 2 then decide (f.2.length ≤ 60) && Nt.isnt f.2 else false
theorem pok_eq (x : Int) (y : List UInt8) : pok (x, y) = if x = 1 then (!y.isEmpty) && !(has2 60 37 y) else if x = 2 then decide (y.length ≤ 60) && Nt.isnt y else false := rfl
def sok (l : List T) (k : Nat) : Bool := pok (l.getD k nov) && !(decide (0 < k) && ((l.getD k nov).1 == 1 && (l.getD (k - 1) nov).1 == 1))
def skn (l : List T) (k : Nat) : Bool := (List.range k).all (sok l)
def okp (l : List T) : Bool := skn l l.length && decide (l.length ≤ 12)
theorem skn_zero (l : List T) : skn l 0 = true := rfl
theorem skn_step {l : List T} {k : Nat} (h : skn l k = true) (h2 : sok l k = true) : skn l (k + 1) = true := by
  unfold skn at h ⊢; rw [List.range_succ, List.all_append, h]; simp [h2]
theorem okp_bad {l : List T} {k : Nat} (hk : k < l.length) (h : sok l k = false) : okp l = false := by
  have : skn l l.length = false := by
    unfold skn; rw [List.all_eq_false]; exact ⟨k, List.mem_range.2 hk, by simp [h]⟩
  unfold okp; rw [this]; rfl
theorem okp_all {l : List T} {k : Nat} (h : skn l k = true) (hk : k ≤ l.length) (hn : ¬ k < l.length) : okp l = decide ((l.length : Int) ≤ 12) := by
  have : k = l.length := by omega
  subst this
  unfold okp; rw [h, Bool.true_and]; simp; omega
theorem sok_no {l : List T} {k : Nat} (h : pok (l.getD k nov) = false) : sok l k = false := by unfold sok; rw [h]; rfl
theorem sok_first {l : List T} {k : Nat} (h : pok (l.getD k nov) = true) (hk : ¬ 0 < k) : sok l k = true := by unfold sok; rw [h, decide_eq_false hk]; rfl
theorem sok_behind {l : List T} {k : Nat} (h : pok (l.getD k nov) = true) (hk : 0 < k) : sok l k = !((l.getD k nov).1 == 1 && (l.getD (k - 1) nov).1 == 1) := by
  unfold sok; rw [h, decide_eq_true hk]; simp
theorem shape_q {w : World} {B : Nat} {v : Value} {l : List T} (h : Holds w B v l) : ∃ a cap, v = .slice a l.length cap ∧ (0 < l.length → ∃ b off, a = some ⟨b, off, none⟩ ∧ b < B ∧ l.length ≤ cap ∧ At w b off l) := by
  rcases h with ⟨rfl, a, cap, rfl⟩ | ⟨h0, b, off, cap, rfl, hb, hcap, hc⟩
  · exact ⟨a, cap, rfl, fun h => by simp at h⟩
  · exact ⟨_, cap, rfl, fun _ => ⟨b, off, rfl, hb, hcap, hc⟩⟩

/-! no tag's end within a normal target -/
/-- Each percent sign stands before a digit. -/
def Pcd : List UInt8 → Prop
  | [] => True
  | c :: r => (c = 37 → ∃ d t, r = d :: t ∧ Nt.hexn d < 16) ∧ Pcd r
theorem hex_no37 {d : UInt8} (h : Nt.hexn d < 16) : d ≠ 37 := by rintro rfl; revert h; decide
theorem hex_no62 {d : UInt8} (h : Nt.hexn d < 16) : d ≠ 62 := by rintro rfl; revert h; decide
theorem pcd_norm : ∀ (n : Nat) (l t : List UInt8), l.length ≤ n → Nt.norm l = some t → Pcd l
  | 0, l, t, hn, h => by
    have : l = [] := List.eq_nil_of_length_eq_zero (by omega)
    subst this; trivial
  | n + 1, [], t, hn, h => trivial
  | n + 1, c :: r, t, hn, h => by
    by_cases hc : c = 37
    · subst hc
      match r, hn, h with
      | [], hn, h => rw [Nt.norm_short (by simp)] at h; cases h
      | [_], hn, h => rw [Nt.norm_short (by simp)] at h; cases h
      | a :: b :: r', hn, h =>
        by_cases hx : Nt.hexn a < 16 ∧ Nt.hexn b < 16
        · rw [Nt.norm_code r' hx.1 hx.2] at h
          cases hr : Nt.norm r' with
          | none => rw [hr] at h; cases h
          | some q =>
            exact ⟨fun _ => ⟨a, b :: r', rfl, hx.1⟩, fun e => absurd e (hex_no37 hx.1), fun e => absurd e (hex_no37 hx.2), pcd_norm n r' q (by simp at hn; omega) hr⟩
        · rw [Nt.norm_bad r' hx] at h; cases h
    · rw [Nt.norm_plain r hc] at h
      cases hr : Nt.norm r with
      | none => rw [hr] at h; cases h
      | some q => exact ⟨fun e => absurd e hc, pcd_norm n r q (by simp at hn; omega) hr⟩
theorem pcd_app : ∀ (p q : List UInt8) (c : UInt8), c ≠ 37 → Pcd p → Pcd q → Pcd (p ++ c :: q)
  | [], q, c, hc, _, h => ⟨fun e => absurd e hc, h⟩
  | a :: p, q, c, hc, h, h2 => by
    refine ⟨fun e => ?_, pcd_app p q c hc h.2 h2⟩
    obtain ⟨d, t, rfl, hd⟩ := h.1 e
    exact ⟨d, t ++ c :: q, rfl, hd⟩
theorem pcd_none : ∀ (l : List UInt8), Pcd l → Lib.index l [37, 62] = -1
  | [], _ => rfl
  | c :: r, h => by
    have ih := pcd_none r h.2
    have hp : ([37, 62] : List UInt8).isPrefixOf (c :: r) = false := by
      cases hx : ([37, 62] : List UInt8).isPrefixOf (c :: r) with
      | false => rfl
      | true =>
        exfalso
        simp only [List.isPrefixOf, Bool.and_eq_true, beq_iff_eq] at hx
        obtain ⟨d, t, rfl, hd⟩ := h.1 hx.1.symm
        simp only [List.isPrefixOf, Bool.and_true, beq_iff_eq] at hx
        exact hex_no62 hd hx.2.symm
    unfold Lib.index
    rw [hp, ih]; rfl
theorem norm_ok {p : List UInt8} (h : (Nt.normp p).2 = true) : Pcd p := by
  cases hn : Nt.norm p with
  | none => rw [Nt.normp_none hn] at h; cases h
  | some t => exact pcd_norm _ p t (Nat.le_refl _) hn
theorem cut_back (c : UInt8) (l : List UInt8) : l = (Tx.cutAt c l).1 ∧ (Tx.cutAt c l).2.1 = [] ∨ l = (Tx.cutAt c l).1 ++ c :: (Tx.cutAt c l).2.1 := by
  unfold Tx.cutAt
  split
  · rename_i h
    right
    have h1 := List.take_append_drop (Tx.idx c l) l
    rw [List.drop_eq_getElem_cons h, Tx.idx_at c l h] at h1
    exact h1.symm
  · left; exact ⟨rfl, rfl⟩
theorem fnd_norm (y : List UInt8) (h : Nt.isnt y = true) : fnd 37 62 y 0 = -1 := by
  have h2 : (Nt.ntar y).2 = true := by unfold Nt.isnt at h; rw [Bool.and_eq_true] at h; exact h.1
  have h3 : (Nt.normp (Tx.cutAt 63 y).1).2 = true ∧ (Nt.normp (Tx.cutAt 63 y).2.1).2 = true := by
    unfold Nt.ntar at h2
    split at h2
    · rename_i hh; exact ⟨hh.1, hh.2.1⟩
    · cases h2
  have hp : Pcd y := by
    rcases cut_back 63 y with ⟨e, _⟩ | e
    · rw [e]; exact norm_ok h3.1
    · rw [e]; exact pcd_app _ _ _ (by decide) (norm_ok h3.1) (norm_ok h3.2)
  unfold fnd
  rw [List.drop_zero, pcd_none y hp]; rfl
end Go.Proofs.YtkedndamkjnmkaaGreatDoor.Prt
