/-
  CONTRACTS AND PLAIN FACTS, several texts in one; each says in its own words what it proves.
-/
import Derived.Test.YtojmkdggkaocdaaGreatDoorPvJ
import Derived.Test.YtojmkdggkaocdaaGreatDoorPvK
import Derived.Lib.AtoiAllCases
import Derived.LoopTactic
import Derived.Laws.IdiomStrings
import Derived.Laws.Concat
import Derived.Test.YtojmkdggkaocdaaGreatDoorRows
import Derived.WalkKit
import Derived.ProofKit
import Derived.Lib.Hide
import Derived.OpenShut
import Derived.Test.YtojmkdggkaocdaaGreatDoorPvA
import Derived.Outline
import Derived.Test.YtojmkdggkaocdaaGreatDoorPvI

/-
  PLAIN FACTS: the weight of a quality, and an element of a list of qualities; no world.
-/
namespace Go.Proofs.YtojmkdggkaocdaaGreatDoor.Qua
open Go Go.RowKit
set_option linter.unusedVariables false
set_option maxRecDepth 1000000

def digs (d : List UInt8) : Bool := d.all Par.isDig
/-- The number that the digits of a weight make, in thousandths. -/
def wnum (a d : List UInt8) : Nat := Par.val 0 (a ++ d ++ List.replicate (3 - d.length) 48)
def wgt2 (a d : List UInt8) : Option Nat := if ((a = [48] ∨ a = [49]) ∧ d.length ≤ 3) ∧ digs d = true ∧ wnum a d ≤ 1000 then some (wnum a d) else none
def wgt (s : List UInt8) : Option Nat := wgt2 (Tx.cutAt 46 s).1 (Tx.cutAt 46 s).2.1
theorem wgt2_no {a d : List UInt8} (h : ¬ ((a = [48] ∨ a = [49]) ∧ d.length ≤ 3)) : wgt2 a d = none := if_neg (fun x => h x.1)
theorem wgt2_dig {a d : List UInt8} (h : digs d = false) : wgt2 a d = none := if_neg (fun x => by rw [h] at x; exact Bool.noConfusion x.2.1)
theorem wgt2_big {a d : List UInt8} (h : 1000 < wnum a d) : wgt2 a d = none := if_neg (fun x => by have := x.2.2; omega)
theorem wgt2_yes {a d : List UInt8} (h : a = [48] ∨ a = [49]) (h2 : d.length ≤ 3) (h3 : digs d = true) (h4 : wnum a d ≤ 1000) : wgt2 a d = some (wnum a d) := if_pos ⟨⟨h, h2⟩, h3, h4⟩
theorem wgt2_le {a d : List UInt8} {n : Nat} (h : wgt2 a d = some n) : n ≤ 1000 := by
  unfold wgt2 at h; split at h
  · rename_i hx; cases h; exact hx.2.2
  · cases h
theorem wgt_le {s : List UInt8} {n : Nat} (h : wgt s = some n) : n ≤ 1000 := wgt2_le h

/-! how strconv.Atoi ends -/
theorem uint_bad (l : List UInt8) : ∀ (k acc : Nat), acc < 10 ^ k → k + l.length ≤ 18 → l.all Par.isDig = false → Lib.parseUint10 acc l = .syntax := by
  induction l with
  | nil => intro k acc _ _ h; cases h
  | cons c r ih =>
    intro k acc ha hl h
    by_cases hc : 48 ≤ c.toNat ∧ c.toNat ≤ 57
    · have hl' : r.length + 1 = (c :: r).length := rfl
      have hp : 10 ^ (k + 1) = 10 ^ k * 10 := Nat.pow_succ ..
      have hq : 10 ^ k ≤ 10 ^ 17 := Nat.pow_le_pow_right (by omega) (by omega)
      rw [Lib.parseUint10, if_pos hc, if_neg (by omega), if_neg (by omega)]
      refine ih (k + 1) _ (by omega) (by omega) ?_
      have hd : Par.isDig c = true := by unfold Par.isDig; exact decide_eq_true hc
      rw [List.all_cons, hd] at h; exact h
    · rw [Lib.parseUint10, if_neg hc]
theorem dig_iff {d : List UInt8} (h : digs d = true) : ∀ c ∈ d, 48 ≤ c.toNat ∧ c.toNat ≤ 57 := by
  intro c hc
  have := List.all_eq_true.1 h c hc
  unfold Par.isDig at this
  exact of_decide_eq_true this
theorem rep_dig (n : Nat) : ∀ c ∈ List.replicate n (48 : UInt8), 48 ≤ c.toNat ∧ c.toNat ≤ 57 := by
  intro c hc; rw [List.mem_replicate] at hc; rw [hc.2]; decide
theorem val_small : ∀ (d : List UInt8) (k acc : Nat), (∀ c ∈ d, 48 ≤ c.toNat ∧ c.toNat ≤ 57) → acc < 10 ^ k → Par.val acc d < 10 ^ (k + d.length)
  | [], k, acc, _, ha => by rw [Par.val_nil]; exact ha
  | c :: r, k, acc, hd, ha => by
    have hc := hd c (List.mem_cons_self ..)
    rw [Par.val_cons, List.length_cons, show k + (r.length + 1) = (k + 1) + r.length by omega]
    refine val_small r (k + 1) _ (fun x hx => hd x (List.mem_cons_of_mem _ hx)) ?_
    rw [Nat.pow_succ]; omega
theorem atoi_w {a d : List UInt8} (ha : a = [48] ∨ a = [49]) (hd : d.length ≤ 3) (h : digs d = true) : Lib.atoiAll (a ++ d ++ List.replicate (3 - d.length) 48) = .ok (wnum a d : Int) := by
  obtain ⟨c, rfl, hc⟩ : ∃ c : UInt8, a = [c] ∧ (48 ≤ c.toNat ∧ c.toNat ≤ 49) := by rcases ha with rfl | rfl; exact ⟨48, rfl, by decide⟩; exact ⟨49, rfl, by decide⟩
  have hall : ∀ x ∈ [c] ++ d ++ List.replicate (3 - d.length) 48, 48 ≤ x.toNat ∧ x.toNat ≤ 57 := by
    intro x hx
    rcases List.mem_append.1 hx with hx | hx
    · rcases List.mem_append.1 hx with hx | hx
      · rw [List.mem_singleton] at hx; subst hx; omega
      · exact dig_iff h x hx
    · exact rep_dig _ x hx
  have hlen : ([c] ++ d ++ List.replicate (3 - d.length) 48).length = 4 := by simp; omega
  have hv := Par.uint_val ([c] ++ d ++ List.replicate (3 - d.length) 48) 0 0 hall (by decide) (by omega)
  have hw : wnum [c] d = Par.val 0 ([c] ++ d ++ List.replicate (3 - d.length) 48) := rfl
  rw [hw]
  show Lib.atoiAll (c :: (d ++ List.replicate (3 - d.length) 48)) = _
  rw [Lib.atoiAll_plain c _ (by omega) (by omega)]
  unfold Lib.parseMag
  rw [if_neg (by simp)]
  rw [show c :: (d ++ List.replicate (3 - d.length) 48) = [c] ++ d ++ List.replicate (3 - d.length) 48 by simp, hv]
  show (if 9223372036854775808 ≤ Par.val 0 ([c] ++ d ++ List.replicate (3 - d.length) 48) then Lib.NumEnd.range else .ok _) = _
  have hs := val_small ([c] ++ d ++ List.replicate (3 - d.length) 48) 0 0 hall (by decide)
  rw [hlen] at hs
  rw [if_neg (by omega)]
theorem atoi_no {a d : List UInt8} (ha : a = [48] ∨ a = [49]) (hd : d.length ≤ 3) (h : digs d = false) : ∀ v, Lib.atoiAll (a ++ d ++ List.replicate (3 - d.length) 48) ≠ .ok v := by
  obtain ⟨c, rfl, hc⟩ : ∃ c : UInt8, a = [c] ∧ (48 ≤ c.toNat ∧ c.toNat ≤ 49) := by rcases ha with rfl | rfl; exact ⟨48, rfl, by decide⟩; exact ⟨49, rfl, by decide⟩
  have hlen : ([c] ++ d ++ List.replicate (3 - d.length) 48).length = 4 := by simp; omega
  have hv := uint_bad ([c] ++ d ++ List.replicate (3 - d.length) 48) 0 0 (by decide) (by omega) (by
    unfold digs at h
    rw [List.all_append, List.all_append, h]; simp)
  intro v
  show Lib.atoiAll (c :: (d ++ List.replicate (3 - d.length) 48)) ≠ _
  rw [Lib.atoiAll_plain c _ (by omega) (by omega)]
  unfold Lib.parseMag
  rw [if_neg (by simp), show c :: (d ++ List.replicate (3 - d.length) 48) = [c] ++ d ++ List.replicate (3 - d.length) 48 by simp, hv]
  intro e; cases e

/-! the model's way: the value byte by byte -/
def wfold (c : UInt8) (d : List UInt8) : Nat := Par.val (c.toNat - 48) d * 10 ^ (3 - d.length)
theorem wfold_num {c : UInt8} {d : List UInt8} (hd : d.length ≤ 3) : wnum [c] d = wfold c d := by
  unfold wnum wfold
  match d, hd with
  | [], _ => simp [Par.val, Par.stp]; omega
  | [x], _ => simp [Par.val, Par.stp]; omega
  | [x, y], _ => simp [Par.val, Par.stp]; omega
  | [x, y, z], _ => simp [Par.val, Par.stp]
theorem wfold_more {c x : UInt8} {d : List UInt8} (hd : d.length ≤ 2) : wfold c (d ++ [x]) = wfold c d + 10 ^ (2 - d.length) * (x.toNat - 48) := by
  unfold wfold
  rw [Par.val_append, Par.val_one, List.length_append, List.length_singleton]
  match hl : d.length, hd with
  | 0, _ => simp; omega
  | 1, _ => simp; omega
  | 2, _ => simp; omega

theorem cut46_one {c : UInt8} (h : c ≠ 46) : Tx.cutAt 46 [c] = ([c], [], false) := by
  have : (c == 46) = false := beq_eq_false_iff_ne.2 h
  unfold Tx.cutAt Tx.idx; rw [this]; simp [Tx.idx]
theorem cut46_dot {c : UInt8} (d : List UInt8) (h : c ≠ 46) : Tx.cutAt 46 (c :: 46 :: d) = ([c], d, true) := by
  have : (c == 46) = false := beq_eq_false_iff_ne.2 h
  unfold Tx.cutAt
  have hi : Tx.idx 46 (c :: 46 :: d) = 1 := by unfold Tx.idx; rw [this]; simp [Tx.idx]
  rw [hi, if_pos (by simp)]; rfl
theorem cut46_other {c x : UInt8} (d : List UInt8) (h : c ≠ 46) (hx : x ≠ 46) : 2 ≤ (Tx.cutAt 46 (c :: x :: d)).1.length := by
  have h1 : (c == 46) = false := beq_eq_false_iff_ne.2 h
  have h2 : (x == 46) = false := beq_eq_false_iff_ne.2 hx
  unfold Tx.cutAt
  have hi : Tx.idx 46 (c :: x :: d) = Tx.idx 46 d + 2 := by simp [Tx.idx, h1, h2]
  split
  · rename_i hh; rw [hi] at hh ⊢; rw [List.length_take]; simp only [List.length_cons] at hh ⊢; omega
  · simp
theorem wgt_nil : wgt [] = none := rfl
theorem wgt_head {c : UInt8} {d : List UInt8} (h : c ≠ 48 ∧ c ≠ 49) : wgt (c :: d) = none := by
  refine wgt2_no (fun x => ?_)
  by_cases hc : c = 46
  · subst hc
    have hz : (Tx.cutAt 46 (46 :: d)).1 = [] := by unfold Tx.cutAt Tx.idx; simp
    rw [hz] at x; rcases x.1 with e | e <;> cases e
  · have h1 : (c == 46) = false := beq_eq_false_iff_ne.2 hc
    have hi : Tx.idx 46 (c :: d) = Tx.idx 46 d + 1 := by simp [Tx.idx, h1]
    have hz : (Tx.cutAt 46 (c :: d)).1.head? = some c := by
      unfold Tx.cutAt; rw [hi]; split <;> simp
    rcases x.1 with e | e <;> rw [e] at hz <;> simp at hz
    · exact h.1 hz.symm
    · exact h.2 hz.symm
theorem wgt_other {c x : UInt8} {d : List UInt8} (hx : x ≠ 46) : wgt (c :: x :: d) = none := by
  by_cases hc : c = 48 ∨ c = 49
  · have h46 : c ≠ 46 := by rcases hc with rfl | rfl <;> decide
    refine wgt2_no (fun y => ?_)
    have := cut46_other d h46 hx
    rcases y.1 with e | e <;> rw [e] at this <;> simp at this
  · exact wgt_head ⟨fun e => hc (Or.inl e), fun e => hc (Or.inr e)⟩
theorem wgt_one {c : UInt8} (hc : c = 48 ∨ c = 49) : wgt [c] = some (wfold c []) := by
  have h46 : c ≠ 46 := by rcases hc with rfl | rfl <;> decide
  unfold wgt; rw [cut46_one h46]
  have hn : wnum [c] [] = wfold c [] := wfold_num (by simp)
  rw [← hn]
  exact wgt2_yes (by rcases hc with rfl | rfl; exact Or.inl rfl; exact Or.inr rfl) (by simp) rfl (by rw [hn]; rcases hc with rfl | rfl <;> decide)
theorem wgt_dot {c : UInt8} {d : List UInt8} (hc : c = 48 ∨ c = 49) : wgt (c :: 46 :: d) = if d.length ≤ 3 ∧ digs d = true ∧ wfold c d ≤ 1000 then some (wfold c d) else none := by
  have h46 : c ≠ 46 := by rcases hc with rfl | rfl <;> decide
  unfold wgt; rw [cut46_dot d h46]
  by_cases h3 : d.length ≤ 3
  · have hn : wnum [c] d = wfold c d := wfold_num h3
    unfold wgt2
    simp only [hn]
    by_cases h : digs d = true ∧ wfold c d ≤ 1000
    · rw [if_pos ⟨⟨by rcases hc with rfl | rfl; exact Or.inl rfl; exact Or.inr rfl, h3⟩, h⟩, if_pos ⟨h3, h⟩]
    · rw [if_neg (fun x => h x.2), if_neg (fun x => h x.2)]
  · rw [if_neg (fun x => h3 x.1)]; exact wgt2_no (fun x => h3 x.2)
theorem wgt_long {s : List UInt8} (h : 5 < s.length) : wgt s = none := by
  match s, h with
  | c :: x :: d, h =>
    by_cases hc : c = 48 ∨ c = 49
    · by_cases hx : x = 46
      · subst hx; rw [wgt_dot hc, if_neg (fun y => by have := y.1; simp at h; omega)]
      · exact wgt_other hx
    · exact wgt_head ⟨fun e => hc (Or.inl e), fun e => hc (Or.inr e)⟩

/-- What an element of a list of qualities gives. -/
def qpar (s : List UInt8) : Option Nat := if Tx.lower (Tx.pairs s).1 = [113] then wgt (Tx.pairs s).2.1 else none
def qel (x : List UInt8) : Option T :=
  if Tx.token (Tx.trim ((Spc.spl 59 x).getD 0 [])) = true ∧ (Spc.spl 59 x).length ≤ 2 then
    (if (Spc.spl 59 x).length = 2 then (qpar ((Spc.spl 59 x).getD 1 [])).map (fun n => (Tx.lower (Tx.trim ((Spc.spl 59 x).getD 0 [])), (n : Int)))
     else some (Tx.lower (Tx.trim ((Spc.spl 59 x).getD 0 [])), 1000))
  else none
def quals (xs : List (List UInt8)) : List T := xs.filterMap qel
def pqs (s : List UInt8) : List T := quals (Tx.split s)
theorem quals_yes {xs : List (List UInt8)} {k : Nat} {d : T} (h : k < xs.length) (hd : qel (xs.getD k []) = some d) : quals (xs.take (k + 1)) = quals (xs.take k) ++ [d] := by
  unfold quals
  rw [List.take_succ_eq_append_getElem h, List.filterMap_append, show xs[k] = xs.getD k [] by simp [List.getD, h]]
  simp only [List.filterMap_cons, hd, List.filterMap_nil]
theorem quals_no {xs : List (List UInt8)} {k : Nat} (h : k < xs.length) (hd : qel (xs.getD k []) = none) : quals (xs.take (k + 1)) = quals (xs.take k) := by
  unfold quals
  rw [List.take_succ_eq_append_getElem h, List.filterMap_append, show xs[k] = xs.getD k [] by simp [List.getD, h]]
  simp only [List.filterMap_cons, hd, List.filterMap_nil, List.append_nil]
theorem quals_len (xs : List (List UInt8)) : (quals xs).length ≤ xs.length := List.length_filterMap_le _ _
/-- Without the sign of equality there is no weight. -/
theorem pairs_no {s : List UInt8} (h : (Tx.pairs s).2.2 = false) : (Tx.pairs s).2.1 = [] := by
  unfold Tx.pairs Tx.cutAt at h ⊢
  split
  · rename_i hh; rw [if_pos hh] at h; cases h
  · rfl
end Go.Proofs.YtojmkdggkaocdaaGreatDoor.Qua

/-
  CONTRACT of the model's FormatInt: at every integer of 64 bits it returns the decimal numeral; nothing that was there before is changed.
-/
namespace Go.Proofs.YtojmkdggkaocdaaGreatDoor.Fmt
open Go Go.RowKit
set_option linter.unusedVariables false
set_option maxRecDepth 1000000

theorem ret_str {a b : List UInt8} (h : a = b) : Ending.returned (.string ⟨a.toArray⟩) = .returned (.string ⟨b.toArray⟩) := by rw [h]

/-- A byte in a new block of its own, read back as a string. -/
theorem byteback (wr : World) (z : Int) (h0 : 0 ≤ z) (h1 : z ≤ 255) :
    (convert 149 9 (.slice (some ⟨wr.heap.size, 0, none⟩) 1 1)).run Tryz.prog (wr.alloc (.cells #[.int .u8 z] 5)) = .ok (.string ⟨[UInt8.ofNat z.toNat].toArray⟩) (wr.alloc (.cells #[.int .u8 z] 5)) := by
  have h := run_convert_bytes_back (P := Tryz.prog) (wr.alloc (.cells #[.int .u8 z] 5)) 149 9 5 ⟨wr.heap.size, 0, none⟩ 1 [UInt8.ofNat z.toNat] Tryz.underlying149 Tryz.underlying5 Tryz.underlying9 (fun j hj => by
    have hj0 : j = 0 := by simpa using hj
    subst hj0
    have : ((UInt8.ofNat z.toNat).toNat : Int) = z := by
      rw [UInt8.toNat_ofNat']; omega
    show World.cell? _ ⟨wr.heap.size, 0 + 0, none⟩ = _
    rw [World.cell?_alloc_new]
    simp; omega)
  exact h
theorem addone (c : UInt8) (suf : List UInt8) (h : suf.length ≤ 40) (W : World) :
    (Op.stringOp .add ⟨[c].toArray⟩ ⟨suf.toArray⟩).run Tryz.prog W = .ok (.string ⟨(c :: suf).toArray⟩) W := by
  rw [run_string_add_sum W _ _ (by simp [ByteArray.size]; omega)]; rfl

theorem step (u : Nat) (suf : List UInt8) (hz : u ≠ 0) (wr : World) : ∃ c : UInt8, dd (u / 10) ++ (c :: suf) = dd u ++ suf ∧
    (convert 149 9 (.slice (some ⟨wr.heap.size, 0, none⟩) 1 1)).run Tryz.prog (wr.alloc (.cells #[.int .u8 (48 + (u : Int) % 10)] 5)) = .ok (.string ⟨[c].toArray⟩) (wr.alloc (.cells #[.int .u8 (48 + (u : Int) % 10)] 5)) := by
  refine ⟨_, ?_, byteback wr _ (by omega) (by omega)⟩
  rw [dd_step hz, show (48 + (u : Int) % 10).toNat = 48 + u % 10 by omega, List.append_assoc]; rfl
theorem step_len (u m : Nat) (c : UInt8) (suf : List UInt8) (h : m ≤ 9223372036854775808) (e : dd (u / 10) ++ (c :: suf) = dd m) : (c :: suf).length ≤ 19 := by
  have h19 := dd_len h
  rw [← e, List.length_append] at h19
  omega

set_option maxRecDepth 1000000 in
set_option maxHeartbeats 400000 in
theorem spec_pos (n : Int) (h0 : 0 < n) (h1 : n ≤ 9223372036854775807) (w : World) :
    Calls Tryz.prog 85 #[.int .i64 n] w fun e w' => e = .returned (.string ⟨(Lib.itoa n).toArray⟩) ∧ Below w.heap.size w w' := by
  have hn : ¬ n = 0 := by omega
  have hns : ¬ n < 0 := by omega
  have HI := Lib.hid (itoa_pos h0)
  go_enter Tryz.func85, Tryz.ntmps85
  go_wp2
  go_loopw [3, 4] (fun s x wr => ∃ (u : Nat) (suf : List UInt8), x = .int .i64 u ∧ (u : Int) ≤ n ∧ s = .string ⟨suf.toArray⟩ ∧ suf.length ≤ 19 ∧ dd u ++ suf = dd n.natAbs ∧ Below w.heap.size w wr) (fun _ x _ => (intOf x).toNat)
  case atStart => exact ⟨n.natAbs, [], by rw [Int.natAbs_of_nonneg (by omega)], by omega, rfl, by simp, by simp, Below.refl _ _⟩
  case round =>
    obtain ⟨u, suf, rfl, hu, rfl, hsl, hdd, hb⟩ := hrel
    have HD := Lib.hid hdd
    clear hdd
    by_cases hz : u = 0
    · subst hz
      go_wp2
      go_ret
      refine ⟨ret_str ?_, hb⟩
      rw [HI.out, ← HD.out, dd_zero]; rfl
    · have hz' : 0 < (u : Int) := by omega
      obtain ⟨c, hst, hcv⟩ := step u suf hz wr
      have hadd := addone c suf (by omega)
      have HL := Lib.hid (step_len u n.natAbs c suf (by omega) (hst.trans HD.out))
      have HS := Lib.hid (hst.trans HD.out)
      clear hst
      go_wp2
      go_roundw
      case rel => exact ⟨u / 10, _, by go_num, by omega, rfl, HL.out, HS.out, hb.alloc hb.size _⟩
      case measure => simp [intOf]; omega

theorem neg_mod (u : Nat) : (-(u : Int)).tmod 10 = -((u : Int) % 10) := by
  rw [Int.neg_tmod]; congr 1
theorem neg_div (u : Nat) : (-(u : Int)).tdiv 10 = -((u : Int) / 10) := by
  rw [Int.neg_tdiv]; congr 1

set_option maxRecDepth 1000000 in
set_option maxHeartbeats 800000 in
theorem spec_neg (n : Int) (h0 : -9223372036854775808 ≤ n) (h1 : n < 0) (w : World) :
    Calls Tryz.prog 85 #[.int .i64 n] w fun e w' => e = .returned (.string ⟨(Lib.itoa n).toArray⟩) ∧ Below w.heap.size w w' := by
  have hn : ¬ n = 0 := by omega
  have HI := Lib.hid (itoa_neg h1)
  go_enter Tryz.func85, Tryz.ntmps85
  go_wp2
  go_loopw [3, 4] (fun s x wr => ∃ (u : Nat) (suf : List UInt8), x = .int .i64 (-(u : Int)) ∧ n ≤ -(u : Int) ∧ s = .string ⟨suf.toArray⟩ ∧ suf.length ≤ 19 ∧ dd u ++ suf = dd n.natAbs ∧ Below w.heap.size w wr) (fun _ x _ => (-(intOf x)).toNat)
  case atStart => exact ⟨n.natAbs, [], by rw [show -(n.natAbs : Int) = n by omega], by omega, rfl, by simp, by simp, Below.refl _ _⟩
  case round =>
    obtain ⟨u, suf, rfl, hu, rfl, hsl, hdd, hb⟩ := hrel
    have HD := Lib.hid hdd
    clear hdd
    by_cases hz : u = 0
    · subst hz
      have hadd := addone 45 suf (by omega)
      go_wp2
      go_ret
      refine ⟨ret_str ?_, hb⟩
      rw [HI.out, ← HD.out, dd_zero]; rfl
    · have hz' : 0 < (u : Int) := by omega
      obtain ⟨c, hst, hcv⟩ := step u suf hz wr
      have hadd := addone c suf (by omega)
      have HL := Lib.hid (step_len u n.natAbs c suf (by omega) (hst.trans HD.out))
      have HS := Lib.hid (hst.trans HD.out)
      clear hst
      have htm := neg_mod u
      have htd := neg_div u
      by_cases hm : (u : Int) % 10 = 0
      · rw [hm, show (48 : Int) + 0 = 48 from rfl] at hcv
        go_wp2
        go_roundw
        case rel => exact ⟨u / 10, _, by go_num, by omega, rfl, HL.out, HS.out, hb.alloc hb.size _⟩
        case measure => simp [intOf]; omega
      · go_wp2
        go_roundw
        case rel => exact ⟨u / 10, _, by go_num, by omega, rfl, HL.out, HS.out, hb.alloc hb.size _⟩
        case measure => simp [intOf]; omega

theorem spec_zero (w : World) :
    Calls Tryz.prog 85 #[.int .i64 0] w fun e w' => e = .returned (.string ⟨(Lib.itoa 0).toArray⟩) ∧ Below w.heap.size w w' := by
  have HI := Lib.hid itoa_zero
  go_enter Tryz.func85, Tryz.ntmps85
  go_wp2
  go_ret
  exact ⟨by rw [HI.out]; rfl, Below.refl _ _⟩

/-- The model's FormatInt, at every integer of 64 bits. -/
theorem spec_fmt (n : Int) (h0 : -9223372036854775808 ≤ n) (h1 : n ≤ 9223372036854775807) (w : World) :
    Calls Tryz.prog 85 #[.int .i64 n] w fun e w' => e = .returned (.string ⟨(Lib.itoa n).toArray⟩) ∧ Below w.heap.size w w' := by
  rcases Int.lt_trichotomy n 0 with h | h | h
  · exact spec_neg n h0 h w
  · subst h; exact spec_zero w
  · exact spec_pos n h h1 w
end Go.Proofs.YtojmkdggkaocdaaGreatDoor.Fmt

/-
  PLAIN FACTS OF NUMBERS that the contracts of chapter 1 lean on: remainder and quotient rounded down, and Go's own. No word of the program stands here.
-/
namespace Go.Proofs.YtojmkdggkaocdaaGreatDoor.NumDiv
open Go Go.RowKit
set_option linter.unusedVariables false
set_option maxRecDepth 1000000

/-- Go's remainder, made not negative; 0 for a divisor out of range. -/
def md (n m : Int) : Int := if 1 ≤ m ∧ m ≤ 1000000000000 then n % m else 0
/-- the quotient rounded down; 0 for a divisor out of range. -/
def fd (n m : Int) : Int := if 1 ≤ m ∧ m ≤ 1000000000000 then n / m else 0

theorem md_out {n m : Int} (h : m < 1 ∨ 1000000000000 < m) : md n m = 0 := by unfold md; rw [if_neg (by omega)]
theorem fd_out {n m : Int} (h : m < 1 ∨ 1000000000000 < m) : fd n m = 0 := by unfold fd; rw [if_neg (by omega)]
theorem md_in {n m : Int} (h : 1 ≤ m) (h2 : m ≤ 1000000000000) : md n m = n % m := by unfold md; rw [if_pos ⟨h, h2⟩]
theorem fd_in {n m : Int} (h : 1 ≤ m) (h2 : m ≤ 1000000000000) : fd n m = n / m := by unfold fd; rw [if_pos ⟨h, h2⟩]

theorem tmod_bd (n m : Int) (h : 1 ≤ m) : -m < n.tmod m ∧ n.tmod m < m := by
  constructor
  · exact Int.lt_tmod_of_pos n (by omega)
  · exact Int.tmod_lt_of_pos n (by omega)
theorem tmod_split (n m : Int) (h : 1 ≤ m) : n.tmod m = n % m ∨ (0 < n % m ∧ n.tmod m = n % m - m) := by
  have e := Int.tmod_eq_emod (a := n) (b := m)
  have p := Int.emod_nonneg n (show m ≠ 0 by omega)
  by_cases c : 0 ≤ n ∨ m ∣ n
  · rw [if_pos c] at e; left; rw [e]; simp
  · rw [if_neg c] at e
    right
    have hz : n % m ≠ 0 := fun z => c (Or.inr (Int.dvd_of_emod_eq_zero z))
    exact ⟨by omega, by omega⟩
theorem tmod_neg_emod {n m : Int} (h : 1 ≤ m) (hr : n.tmod m < 0) : n.tmod m + m = n % m := by
  have p := Int.emod_nonneg n (show m ≠ 0 by omega)
  rcases tmod_split n m h with e | ⟨_, e⟩ <;> omega
theorem tmod_pos_emod {n m : Int} (h : 1 ≤ m) (hr : 0 ≤ n.tmod m) : n.tmod m = n % m := by
  have p := Int.emod_lt_of_pos n (show 0 < m by omega)
  rcases tmod_split n m h with e | ⟨_, e⟩ <;> omega
theorem tdiv_neg {n m : Int} (h : 1 ≤ m) (hr : n.tmod m < 0) : n.tdiv m - 1 = n / m := by
  have e := tmod_neg_emod h hr
  have a := Int.mul_tdiv_add_tmod n m
  have b := Int.mul_ediv_add_emod n m
  have : m * (n.tdiv m - 1) = m * (n / m) := by rw [Int.mul_sub]; omega
  exact Int.eq_of_mul_eq_mul_left (show m ≠ 0 by omega) this
theorem tdiv_pos {n m : Int} (h : 1 ≤ m) (hr : 0 ≤ n.tmod m) : n.tdiv m = n / m := by
  have e := tmod_pos_emod h hr
  have a := Int.mul_tdiv_add_tmod n m
  have b := Int.mul_ediv_add_emod n m
  have : m * (n.tdiv m) = m * (n / m) := by omega
  exact Int.eq_of_mul_eq_mul_left (show m ≠ 0 by omega) this

theorem q_bd' (n m : Int) (h : 1 ≤ m) (a : -9223372036854775808 ≤ n) (b : n ≤ 9223372036854775807) : -9223372036854775808 ≤ n / m ∧ n / m ≤ 9223372036854775807 := by
  constructor
  · refine Int.le_ediv_of_mul_le (by omega) ?_
    have : (-9223372036854775808 : Int) * m ≤ -9223372036854775808 * 1 := Int.mul_le_mul_of_nonpos_left (by omega) h
    omega
  · by_cases z : 0 ≤ n
    · have := Int.ediv_le_self m z; omega
    · have := Int.ediv_neg_of_neg_of_pos (show n < 0 by omega) (show 0 < m by omega); omega
theorem q_bd (n m : Int) (h : 1 ≤ m) (a : -9223372036854775808 ≤ n) (b : n ≤ 9223372036854775807) : -9223372036854775808 ≤ n.tdiv m ∧ n.tdiv m ≤ 9223372036854775807 := by
  have c := q_bd' n m h a b
  by_cases hr : n.tmod m < 0
  · have d := tdiv_neg h hr
    have e : n < 0 := by
      by_cases z : 0 ≤ n
      · have := Int.tmod_nonneg m z; omega
      · omega
    have := Int.ediv_neg_of_neg_of_pos e (show 0 < m by omega)
    omega
  · rw [tdiv_pos h (by omega)]; exact c
theorem ret_int {k : IntKind} {a b : Int} (h : a = b) : Ending.returned (.int k a) = .returned (.int k b) := by rw [h]
end Go.Proofs.YtojmkdggkaocdaaGreatDoor.NumDiv

/-
  CONTRACT of the model's small test l1In: whether a number lies between two others; the world stays as it was.
-/
namespace Go.Proofs.YtojmkdggkaocdaaGreatDoor.NumDiv
open Go Go.RowKit
set_option linter.unusedVariables false
set_option maxRecDepth 1000000

theorem in_yes (x lo hi : Int) (w : World) (h1 : lo ≤ x) (h2 : x ≤ hi) :
    Calls Tryz.prog 36 #[.int .i64 x, .int .i64 lo, .int .i64 hi] w fun e w' => e = .returned (.bool true) ∧ w = w' := by
  go_enter Tryz.func36, Tryz.ntmps36
  go_wp2
  go_ret
  exact ⟨rfl, rfl⟩
theorem in_no (x lo hi : Int) (w : World) (h : x < lo ∨ hi < x) :
    Calls Tryz.prog 36 #[.int .i64 x, .int .i64 lo, .int .i64 hi] w fun e w' => e = .returned (.bool false) ∧ w = w' := by
  by_cases h1 : lo ≤ x
  · have h2 : ¬ x ≤ hi := by omega
    clear h
    go_enter Tryz.func36, Tryz.ntmps36
    go_wp2
    go_ret
    exact ⟨rfl, rfl⟩
  · clear h
    go_enter Tryz.func36, Tryz.ntmps36
    go_wp2
    go_ret
    exact ⟨rfl, rfl⟩
end Go.Proofs.YtojmkdggkaocdaaGreatDoor.NumDiv

/-
  CONTRACT of the model's ParseInt: at every text it answers the number whose decimal numeral the text is, if it lies between 0 and the greatest integer that is read; nothing that was there before is changed.
-/
namespace Go.Proofs.YtojmkdggkaocdaaGreatDoor.Par
open Go Go.RowKit
set_option linter.unusedVariables false
set_option maxRecDepth 1000000

theorem list_eq {l : List UInt8} {s : ByteArray} (h : (!l == s.toList) = false) : l = s.data.toList := by
  rw [← Go.ByteArray.toList_eq]
  simpa using h
theorem list_ne {l : List UInt8} {s : ByteArray} (h : (!l == s.toList) = true) : l ≠ s.data.toList := by
  rw [← Go.ByteArray.toList_eq]
  simpa using h
/-- How ParseInt ends. -/
def Parsed (l : List UInt8) (w : World) (e : Ending) (w' : World) : Prop := ∃ v b, PS l v b ∧ e = .returned (.tuple #[.int .i64 v, .bool b]) ∧ Below w.heap.size w w'

set_option maxHeartbeats 1000000 in
theorem spec_parse (s : ByteArray) (w : World) (hs : s.size ≤ 9223372036854775806) :
    Calls Tryz.prog 118 #[.string s] w (Parsed s.data.toList w) := by
  by_cases hlen : 1 ≤ (s.size : Int) ∧ (s.size : Int) ≤ 13
  · obtain ⟨hl1, hl2⟩ := hlen
    go_enter Tryz.func118, Tryz.ntmps118
    go_wp2_with (go_at_call 36; refine (NumDiv.in_yes _ _ _ _ hl1 hl2).mono ?_; rintro e w' ⟨rfl, rfl⟩)
    go_loop [4, 5] (fun n i => ∃ k m : Nat, k ≤ s.size ∧ i = .int .i64 k ∧ n = .int .i64 m ∧ Good s k m) (fun _ i => s.size - (intOf i).toNat)
    case atStart => exact ⟨0, 0, Nat.zero_le _, rfl, rfl, good_zero s⟩
    case round =>
      obtain ⟨k, m, hk, rfl, rfl, hg⟩ := hrel
      have hmb := good_bound hg (by omega)
      by_cases hlt : k < s.size
      · by_cases hc : 48 ≤ (s[k].toNat : Int) ∧ (s[k].toNat : Int) ≤ 57
        · obtain ⟨hc1, hc2⟩ := hc
          have G := Lib.hid (good_step hlt hg hc1 hc2)
          clear hg
          go_wp2_with (go_at_call 36; refine (NumDiv.in_yes _ _ _ _ hc1 hc2).mono ?_; rintro e w' ⟨rfl, rfl⟩)
          go_round
          case rel => exact ⟨k + 1, _, by omega, by go_num, by go_num, G.out⟩
          case measure => simp [intOf]; omega
        · have hc' : (s[k].toNat : Int) < 48 ∨ 57 < (s[k].toNat : Int) := by omega
          have G := Lib.hid (ps_bad hlt hc')
          have HC := Lib.hid hc'
          clear hg hc hc'
          have hub : (s[k].toNat : Int) ≤ 255 := by have := s[k].toNat_lt; omega
          have hub0 : 0 ≤ (s[k].toNat : Int) := by omega
          go_wp2_with (go_at_call 36; (with_reducible refine (NumDiv.in_no _ _ _ _ HC.out).mono ?_); rintro e w' ⟨rfl, rfl⟩)
          go_ret2
          exact ⟨_, _, G.out, rfl, Below.refl _ _⟩
      · have hks : k = s.size := by omega
        by_cases hm : 1000000000000 < (m : Int)
        · have G := Lib.hid (ps_great (hks ▸ hg) hm)
          clear hg hks
          go_wp2
          go_ret2
          exact ⟨_, _, G.out, rfl, Below.refl _ _⟩
        · have HK := Lib.hid hks
          clear hks
          go_wp2_with (go_at_call 85; refine (Fmt.spec_fmt m (by omega) (by omega) _).mono ?_; rintro e w1 ⟨rfl, hb1⟩)
          · have hq : (!Lib.itoa (m : Int) == s.toList) = true := by assumption
            go_ret2
            exact ⟨_, _, ps_other (HK.out ▸ hg) (list_ne hq), rfl, hb1⟩
          · have hq : (!Lib.itoa (m : Int) == s.toList) = false := by assumption
            go_ret2
            exact ⟨_, _, ps_is (by omega) (list_eq hq), rfl, hb1⟩
  · have hl : (s.size : Int) < 1 ∨ 13 < (s.size : Int) := by omega
    have H := Lib.hid hl
    have G := Lib.hid (ps_short hl)
    clear hl hlen
    go_enter Tryz.func118, Tryz.ntmps118
    go_wp2_with (go_at_call 36; refine (NumDiv.in_no _ _ _ _ H.out).mono ?_; rintro e w' ⟨rfl, rfl⟩)
    go_ret2
    exact ⟨_, _, G.out, rfl, Below.refl _ _⟩
end Go.Proofs.YtojmkdggkaocdaaGreatDoor.Par

/-
  CONTRACT of the program's FormatInt: at every integer of 64 bits, where the library's table of powers of ten reads as it is written, it returns the decimal numeral; nothing that was there before is changed.
-/
namespace Go.Proofs.YtojmkdggkaocdaaGreatDoor.Fmt
open Go Go.RowKit
set_option linter.unusedVariables false
set_option maxRecDepth 1000000

/-- The library's table of powers of ten, as it is written. -/
def Tens (w : World) : Prop := Lib.TabIs Tryz.prog w "internal/strconv.uint64pow10" .u64 Lib.pow10Tab
theorem tens_below {W w1 : World} (h : Tens W) (hb : Below W.heap.size W w1) : Tens w1 := Base.var_below h hb

theorem impl_fmt (n : Int) (h0 : -9223372036854775808 ≤ n) (h1 : n ≤ 9223372036854775807) (w : World) (ht : Tens w) :
    Calls Tryz.prog 92 #[.int .i64 n] w fun e w' => e = .returned (.string ⟨(Lib.itoa n).toArray⟩) ∧ Below w.heap.size w w' := by
  go_enter Tryz.func92, Tryz.ntmps92
  go_wp2_with (go_at_call 129; refine (Tryz.strconv_Itoa n h0 h1 _ ht).mono ?_; rintro e w' ⟨rfl, k, os, rfl⟩)
  go_ret
  exact ⟨rfl, Base.below_grow_drewN _ _ _⟩
end Go.Proofs.YtojmkdggkaocdaaGreatDoor.Fmt
