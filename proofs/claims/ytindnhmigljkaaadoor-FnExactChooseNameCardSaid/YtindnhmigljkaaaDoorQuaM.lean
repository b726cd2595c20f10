/-
  PLAIN FACTS: the weight of a quality, and an element of a list of qualities; no world.
-/
import Derived.Test.YtindnhmigljkaaaDoorDirReadM
import Derived.Test.YtindnhmigljkaaaDoorParMath
import Derived.Test.YtindnhmigljkaaaDoorPairFn
import Derived.Test.YtindnhmigljkaaaDoorSpc
import Derived.Test.YtindnhmigljkaaaDoorQua
import Derived.Lib.AtoiAllCases
namespace Go.Proofs.YtindnhmigljkaaaDoor.Qua
open Go Go.RowKit
set_option linter.unusedVariables false
set_option maxRecDepth 1000000

def digs (d : List UInt8) : Bool := d.all Par.isDig
/-- The number that the digits of a weight make, in thousandths. -/
def wnum (a d : List UInt8) : Nat := Par.val 0 (a ++ d ++ List.replicate (3 - d.length) 48)
def wgt2 (a d : List UInt8) : Option Nat := if ((a = [48] ∨ a = [49]) ∧ d.length ≤ 3) ∧ digs d = true ∧ wnum a d ≤ 1000 then some (wnum a d) else none
def wgt (s : List UInt8) : Option Nat := wgt2 (Tx.cutAt 46 s).1 (Tx.cutAt 46 s).2.1
theorem wgt2_no {a d : List UInt8} (h : ¬ ((a = [48] ∨ a = [49]) ∧ d.length ≤ 3)) : wgt2 a d = none := if_neg (fun x => h x.1)
theorem wgt2_dig {a d : List UInt8} (h : digs d = false) : wgt2 a d = none := if_neg (fun x => by rw [h] at x; exact Bool.noConfusion x.2.1)
theorem wgt2_big {a d : List UInt8} (h : 1000 < wnum a d) : wgt2 a d = none := if_neg (fun x => by have := x.2.2; omega)
theorem wgt2_yes {a d : List UInt8} (h : a = [48] ∨ a = [49]) (h2 : d.length ≤ 3) (h3 : digs d = true) (h4 : wnum a d ≤ 1000) : wgt2 a d = some (wnum a d) := if_pos ⟨⟨h, h2⟩, h3, h4⟩
theorem wgt2_le {a d : List UInt8} {n : Nat} (h : wgt2 a d = some n) : n ≤ 1000 := by
  unfold wgt2 at h; split at h
  · rename_i hx; cases h; exact hx.2.2
  · cases h
theorem wgt_le {s : List UInt8} {n : Nat} (h : wgt s = some n) : n ≤ 1000 := wgt2_le h

/-! how strconv.Atoi ends -/
theorem uint_bad (l : List UInt8) : ∀ (k acc : Nat), acc < 10 ^ k → k + l.length ≤ 18 → l.all Par.isDig = false → Lib.parseUint10 acc l = .syntax := by
  induction l with
  | nil => intro k acc _ _ h; cases h
  | cons c r ih =>
    intro k acc ha hl h
    by_cases hc : 48 ≤ c.toNat ∧ c.toNat ≤ 57
    · have hl' : r.length + 1 = (c :: r).length := rfl
      have hp : 10 ^ (k + 1) = 10 ^ k * 10 := Nat.pow_succ ..
      have hq : 10 ^ k ≤ 10 ^ 17 := Nat.pow_le_pow_right (by omega) (by omega)
      rw [Lib.parseUint10, if_pos hc, if_neg (by omega), if_neg (by omega)]
      refine ih (k + 1) _ (by omega) (by omega) ?_
      have hd : Par.isDig c = true := by unfold Par.isDig; exact decide_eq_true hc
      rw [List.all_cons, hd] at h; exact h
    · rw [Lib.parseUint10, if_neg hc]
theorem dig_iff {d : List UInt8} (h : digs d = true) : ∀ c ∈ d, 48 ≤ c.toNat ∧ c.toNat ≤ 57 := by
  intro c hc
  have := List.all_eq_true.1 h c hc
  unfold Par.isDig at this
  exact of_decide_eq_true this
theorem rep_dig (n : Nat) : ∀ c ∈ List.replicate n (48 : UInt8), 48 ≤ c.toNat ∧ c.toNat ≤ 57 := by
  intro c hc; rw [List.mem_replicate] at hc; rw [hc.2]; decide
theorem val_small : ∀ (d : List UInt8) (k acc : Nat), (∀ c ∈ d, 48 ≤ c.toNat ∧ c.toNat ≤ 57) → acc < 10 ^ k → Par.val acc d < 10 ^ (k + d.length)
  | [], k, acc, _, ha => by rw [Par.val_nil]; exact ha
  | c :: r, k, acc, hd, ha => by
    have hc := hd c (List.mem_cons_self ..)
    rw [Par.val_cons, List.length_cons, show k + (r.length + 1) = (k + 1) + r.length by omega]
    refine val_small r (k + 1) _ (fun x hx => hd x (List.mem_cons_of_mem _ hx)) ?_
    rw [Nat.pow_succ]; omega
theorem atoi_w {a d : List UInt8} (ha : a = [48] ∨ a = [49]) (hd : d.length ≤ 3) (h : digs d = true) : Lib.atoiAll (a ++ d ++ List.replicate (3 - d.length) 48) = .ok (wnum a d : Int) := by
  obtain ⟨c, rfl, hc⟩ : ∃ c : UInt8, a = [c] ∧ (48 ≤ c.toNat ∧ c.toNat ≤ 49) := by rcases ha with rfl | rfl; exact ⟨48, rfl, by decide⟩; exact ⟨49, rfl, by decide⟩
  have hall : ∀ x ∈ [c] ++ d ++ List.replicate (3 - d.length) 48, 48 ≤ x.toNat ∧ x.toNat ≤ 57 := by
    intro x hx
    rcases List.mem_append.1 hx with hx | hx
    · rcases List.mem_append.1 hx with hx | hx
      · rw [List.mem_singleton] at hx; subst hx; omega
      · exact dig_iff h x hx
    · exact rep_dig _ x hx
  have hlen : ([c] ++ d ++ List.replicate (3 - d.length) 48).length = 4 := by simp; omega
  have hv := Par.uint_val ([c] ++ d ++ List.replicate (3 - d.length) 48) 0 0 hall (by decide) (by omega)
  have hw : wnum [c] d = Par.val 0 ([c] ++ d ++ List.replicate (3 - d.length) 48) := rfl
  rw [hw]
  show Lib.atoiAll (c :: (d ++ List.replicate (3 - d.length) 48)) = _
  rw [Lib.atoiAll_plain c _ (by omega) (by omega)]
  unfold Lib.parseMag
  rw [if_neg (by simp)]
  rw [show c :: (d ++ List.replicate (3 - d.length) 48) = [c] ++ d ++ List.replicate (3 - d.length) 48 by simp, hv]
  show (if 9223372036854775808 ≤ Par.val 0 ([c] ++ d ++ List.replicate (3 - d.length) 48) then Lib.NumEnd.range else .ok _) = _
  have hs := val_small ([c] ++ d ++ List.replicate (3 - d.length) 48) 0 0 hall (by decide)
  rw [hlen] at hs
  rw [if_neg (by omega)]
theorem atoi_no {a d : List UInt8} (ha : a = [48] ∨ a = [49]) (hd : d.length ≤ 3) (h : digs d = false) : ∀ v, Lib.atoiAll (a ++ d ++ List.replicate (3 - d.length) 48) ≠ .ok v := by
  obtain ⟨c, rfl, hc⟩ : ∃ c : UInt8, a = [c] ∧ (48 ≤ c.toNat ∧ c.toNat ≤ 49) := by rcases ha with rfl | rfl; exact ⟨48, rfl, by decide⟩; exact ⟨49, rfl, by decide⟩
  have hlen : ([c] ++ d ++ List.replicate (3 - d.length) 48).length = 4 := by simp; omega
  have hv := uint_bad ([c] ++ d ++ List.replicate (3 - d.length) 48) 0 0 (by decide) (by omega) (by
    unfold digs at h
    rw [List.all_append, List.all_append, h]; simp)
  intro v
  show Lib.atoiAll (c :: (d ++ List.replicate (3 - d.length) 48)) ≠ _
  rw [Lib.atoiAll_plain c _ (by omega) (by omega)]
  unfold Lib.parseMag
  rw [if_neg (by simp), show c :: (d ++ List.replicate (3 - d.length) 48) = [c] ++ d ++ List.replicate (3 - d.length) 48 by simp, hv]
  intro e; cases e

/-! the model's way: the value byte by byte -/
def wfold (c : UInt8) (d : List UInt8) : Nat := Par.val (c.toNat - 48) d * 10 ^ (3 - d.length)
theorem wfold_num {c : UInt8} {d : List UInt8} (hd : d.length ≤ 3) : wnum [c] d = wfold c d := by
  unfold wnum wfold
  match d, hd with
  | [], _ => simp [Par.val, Par.stp]; omega
  | [x], _ => simp [Par.val, Par.stp]; omega
  | [x, y], _ => simp [Par.val, Par.stp]; omega
  | [x, y, z], _ => simp [Par.val, Par.stp]
theorem wfold_more {c x : UInt8} {d : List UInt8} (hd : d.length ≤ 2) : wfold c (d ++ [x]) = wfold c d + 10 ^ (2 - d.length) * (x.toNat - 48) := by
  unfold wfold
  rw [Par.val_append, Par.val_one, List.length_append, List.length_singleton]
  match hl : d.length, hd with
  | 0, _ => simp; omega
  | 1, _ => simp; omega
  | 2, _ => simp; omega

theorem cut46_one {c : UInt8} (h : c ≠ 46) : Tx.cutAt 46 [c] = ([c], [], false) := by
  have : (c == 46) = false := beq_eq_false_iff_ne.2 h
  unfold Tx.cutAt Tx.idx; rw [this]; simp [Tx.idx]
theorem cut46_dot {c : UInt8} (d : List UInt8) (h : c ≠ 46) : Tx.cutAt 46 (c :: 46 :: d) = ([c], d, true) := by
  have : (c == 46) = false := beq_eq_false_iff_ne.2 h
  unfold Tx.cutAt
  have hi : Tx.idx 46 (c :: 46 :: d) = 1 := by unfold Tx.idx; rw [this]; simp [Tx.idx]
  rw [hi, if_pos (by simp)]; rfl
theorem cut46_other {c x : UInt8} (d : List UInt8) (h : c ≠ 46) (hx : x ≠ 46) : 2 ≤ (Tx.cutAt 46 (c :: x :: d)).1.length := by
  have h1 : (c == 46) = false := beq_eq_false_iff_ne.2 h
  have h2 : (x == 46) = false := beq_eq_false_iff_ne.2 hx
  unfold Tx.cutAt
  have hi : Tx.idx 46 (c :: x :: d) = Tx.idx 46 d + 2 := by simp [Tx.idx, h1, h2]
  split
  · rename_i hh; rw [hi] at hh ⊢; rw [List.length_take]; simp only [List.length_cons] at hh ⊢; omega
  · simp
theorem wgt_nil : wgt [] = none := rfl
theorem wgt_head {c : UInt8} {d : List UInt8} (h : c ≠ 48 ∧ c ≠ 49) : wgt (c :: d) = none := by
  refine wgt2_no (fun x => ?_)
  by_cases hc : c = 46
  · subst hc
    have hz : (Tx.cutAt 46 (46 :: d)).1 = [] := by unfold Tx.cutAt Tx.idx; simp
    rw [hz] at x; rcases x.1 with e | e <;> cases e
  · have h1 : (c == 46) = false := beq_eq_false_iff_ne.2 hc
    have hi : Tx.idx 46 (c :: d) = Tx.idx 46 d + 1 := by simp [Tx.idx, h1]
    have hz : (Tx.cutAt 46 (c :: d)).1.head? = some c := by
      unfold Tx.cutAt; rw [hi]; split <;> simp
    rcases x.1 with e | e <;> rw [e] at hz <;> simp at hz
    · exact h.1 hz.symm
    · exact h.2 hz.symm
theorem wgt_other {c x : UInt8} {d : List UInt8} (hx : x ≠ 46) : wgt (c :: x :: d) = none := by
  by_cases hc : c = 48 ∨ c = 49
  · have h46 : c ≠ 46 := by rcases hc with rfl | rfl <;> decide
    refine wgt2_no (fun y => ?_)
    have := cut46_other d h46 hx
    rcases y.1 with e | e <;> rw [e] at this <;> simp at this
  · exact wgt_head ⟨fun e => hc (Or.inl e), fun e => hc (Or.inr e)⟩
theorem wgt_one {c : UInt8} (hc : c = 48 ∨ c = 49) : wgt [c] = some (wfold c []) := by
  have h46 : c ≠ 46 := by rcases hc with rfl | rfl <;> decide
  unfold wgt; rw [cut46_one h46]
  have hn : wnum [c] [] = wfold c [] := wfold_num (by simp)
  rw [← hn]
  exact wgt2_yes (by rcases hc with rfl | rfl; exact Or.inl rfl; exact Or.inr rfl) (by simp) rfl (by rw [hn]; rcases hc with rfl | rfl <;> decide)
theorem wgt_dot {c : UInt8} {d : List UInt8} (hc : c = 48 ∨ c = 49) : wgt (c :: 46 :: d) = if d.length ≤ 3 ∧ digs d = true ∧ wfold c d ≤ 1000 then some (wfold c d) else none := by
  have h46 : c ≠ 46 := by rcases hc with rfl | rfl <;> decide
  unfold wgt; rw [cut46_dot d h46]
  by_cases h3 : d.length ≤ 3
  · have hn : wnum [c] d = wfold c d := wfold_num h3
    unfold wgt2
    simp only [hn]
    by_cases h : digs d = true ∧ wfold c d ≤ 1000
    · rw [if_pos ⟨⟨by rcases hc with rfl | rfl; exact Or.inl rfl; exact Or.inr rfl, h3⟩, h⟩, if_pos ⟨h3, h⟩]
    · rw [if_neg (fun x => h x.2), if_neg (fun x => h x.2)]
  · rw [if_neg (fun x => h3 x.1)]; exact wgt2_no (fun x => h3 x.2)
theorem wgt_long {s : List UInt8} (h : 5 < s.length) : wgt s = none := by
  match s, h with
  | c :: x :: d, h =>
    by_cases hc : c = 48 ∨ c = 49
    · by_cases hx : x = 46
      · subst hx; rw [wgt_dot hc, if_neg (fun y => by have := y.1; simp at h; omega)]
      · exact wgt_other hx
    · exact wgt_head ⟨fun e => hc (Or.inl e), fun e => hc (Or.inr e)⟩

/-- What an element of a list of qualities gives. -/
def qpar (s : List UInt8) : Option Nat := if Tx.lower (Tx.pairs s).1 = [113] then wgt (Tx.pairs s).2.1 else none
def qel (x : List UInt8) : Option T :=
  if Tx.token (Tx.trim ((Spc.spl 59 x).getD 0 [])) = true ∧ (Spc.spl 59 x).length ≤ 2 then
    (if (Spc.spl 59 x).length = 2 then (qpar ((Spc.spl 59 x).getD 1 [])).map (fun n => (Tx.lower (Tx.trim ((Spc.spl 59 x).getD 0 [])), (n : Int)))
     else some (Tx.lower (Tx.trim ((Spc.spl 59 x).getD 0 [])), 1000))
  else none
def quals (xs : List (List UInt8)) : List T := xs.filterMap qel
def pqs (s : List UInt8) : List T := quals (Tx.split s)
theorem quals_yes {xs : List (List UInt8)} {k : Nat} {d : T} (h : k < xs.length) (hd : qel (xs.getD k []) = some d) : quals (xs.take (k + 1)) = quals (xs.take k) ++ [d] := by
  unfold quals
  rw [List.take_succ_eq_append_getElem h, List.filterMap_append, show xs[k] = xs.getD k [] by simp [List.getD, h]]
  simp only [List.filterMap_cons, hd, List.filterMap_nil]
theorem quals_no {xs : List (List UInt8)} {k : Nat} (h : k < xs.length) (hd : qel (xs.getD k []) = none) : quals (xs.take (k + 1)) = quals (xs.take k) := by
  unfold quals
  rw [List.take_succ_eq_append_getElem h, List.filterMap_append, show xs[k] = xs.getD k [] by simp [List.getD, h]]
  simp only [List.filterMap_cons, hd, List.filterMap_nil, List.append_nil]
theorem quals_len (xs : List (List UInt8)) : (quals xs).length ≤ xs.length := List.length_filterMap_le _ _
/-- Without the sign of equality there is no weight. -/
theorem pairs_no {s : List UInt8} (h : (Tx.pairs s).2.2 = false) : (Tx.pairs s).2.1 = [] := by
  unfold Tx.pairs Tx.cutAt at h ⊢
  split
  · rename_i hh; rw [if_pos hh] at h; cases h
  · rfl
end Go.Proofs.YtindnhmigljkaaaDoor.Qua
