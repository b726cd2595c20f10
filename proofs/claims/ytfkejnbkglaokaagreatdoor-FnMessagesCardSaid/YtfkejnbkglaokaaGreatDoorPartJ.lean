/-
  CONTRACTS AND PLAIN FACTS, several texts in one; each says in its own words what it proves.
-/
import Derived.Test.YtfkejnbkglaokaaGreatDoorPartI
import Derived.Test.YtfkejnbkglaokaaGreatDoorPartH
import Derived.Lib.CutLaws
import Derived.Test.YtfkejnbkglaokaaGreatDoorPartE
import Derived.Test.YtfkejnbkglaokaaGreatDoorPartG
import Derived.Lib.IndexLaws
import Derived.Test.YtfkejnbkglaokaaGreatDoorPartD
import Derived.LoopTactic
import Derived.Outline
import Derived.Test.YtfkejnbkglaokaaGreatDoorPartB
import Derived.Lib.SlTrimSet
import Derived.Lib.Case
import Derived.Lib.Strings
import Derived.Test.YtfkejnbkglaokaaGreatDoorPartA
set_option linter.unusedSimpArgs false
set_option linter.unusedVariables false

/-
  PLAIN FACTS: the fields that lines give; no world.
-/
namespace Go.Proofs.YtfkejnbkglaokaaGreatDoor.Flds
open Go Go.RowKit
set_option linter.unusedVariables false
set_option maxRecDepth 1000000

def ln (s : List UInt8) : List UInt8 × List UInt8 × Bool := Lib.cut s [13, 10]
def fld1 (s : List UInt8) : Option Fld := if (ln s).2.2 = true ∧ (Tx.cutAt 58 (ln s).1).2.2 = true then some (Tx.lower (Tx.cutAt 58 (ln s).1).1, Tx.trim (Tx.cutAt 58 (ln s).1).2.1) else none
def pf : Nat → List UInt8 → Option (List Fld)
  | 0, s => if s = [] then some [] else none
  | n + 1, s => if s = [] then some [] else (fld1 s).bind (fun f => (pf n (ln s).2.1).map (f :: ·))
def PF (s : List UInt8) : Option (List Fld) := pf s.length s
theorem ln_len {s : List UInt8} (h : (ln s).2.2 = true) : (ln s).1.length + (ln s).2.1.length + 2 = s.length := by
  unfold ln Lib.cut at h ⊢
  split at h
  · rename_i h0
    rw [if_pos h0]
    rcases Lib.indexB_cases ⟨s.toArray⟩ ⟨#[13, 10]⟩ with e | ⟨i, e, hi⟩
    · have e' : Lib.index s [13, 10] = -1 := by unfold Lib.indexB at e; exact e
      omega
    · have e' : Lib.index s [13, 10] = (i : Int) := by unfold Lib.indexB at e; exact e
      rw [e']
      have hs : (⟨s.toArray⟩ : ByteArray).size = s.length := by simp [ByteArray.size]
      have h2 : (⟨#[13, 10]⟩ : ByteArray).size = 2 := rfl
      simp only [Int.toNat_natCast, List.length_take, List.length_drop, List.length_cons, List.length_nil]
      omega
  · cases h
theorem pf_fuel : ∀ (n m : Nat) (s : List UInt8), s.length ≤ n → s.length ≤ m → pf n s = pf m s
  | 0, 0, _, _, _ => rfl
  | 0, m + 1, s, h, _ => by have : s = [] := List.length_eq_zero_iff.1 (by omega); subst this; simp [pf]
  | n + 1, 0, s, _, h => by have : s = [] := List.length_eq_zero_iff.1 (by omega); subst this; simp [pf]
  | n + 1, m + 1, s, h1, h2 => by
    unfold pf
    split
    · rfl
    · by_cases hf : (ln s).2.2 = true
      · have := ln_len hf
        rw [pf_fuel n m _ (by omega) (by omega)]
      · unfold fld1; rw [if_neg (fun h => hf h.1)]; rfl
theorem PF_nil : PF [] = some [] := rfl
theorem PF_bad {s : List UInt8} (hs : s ≠ []) (h : fld1 s = none) : PF s = none := by
  unfold PF
  cases s with
  | nil => exact absurd rfl hs
  | cons a r => unfold pf; rw [List.length_cons]; simp only [pf]; rw [if_neg hs, h]; rfl
theorem PF_step {s : List UInt8} {f : Fld} (hs : s ≠ []) (h : fld1 s = some f) : PF s = (PF (ln s).2.1).map (f :: ·) := by
  have hf : (ln s).2.2 = true := by
    unfold fld1 at h; split at h
    · rename_i h0; exact h0.1
    · cases h
  have hl := ln_len hf
  unfold PF
  obtain ⟨n, hn⟩ : ∃ n, s.length = n + 1 := ⟨s.length - 1, by have : 0 < s.length := List.length_pos_iff.2 hs; omega⟩
  rw [hn]
  conv => lhs; unfold pf
  rw [if_neg hs, h, pf_fuel n (ln s).2.1.length _ (by omega) (Nat.le_refl _)]
  rfl
/-- What the loop keeps: what the whole text gives is what is read already and what the rest gives. -/
def Kp (l : List UInt8) (m : List Fld) (r : List UInt8) : Prop := PF l = (PF r).map (m ++ ·) ∧ total m + r.length ≤ l.length
theorem kp_start (l : List UInt8) : Kp l [] l := by
  refine ⟨?_, by rw [total_nil]; omega⟩
  cases PF l <;> simp
theorem kp_end {l : List UInt8} {m : List Fld} (h : Kp l m []) : PF l = some m := by rw [h.1, PF_nil]; simp
theorem kp_bad {l r : List UInt8} {m : List Fld} (h : Kp l m r) (hr : r ≠ []) (hf : fld1 r = none) : PF l = none := by rw [h.1, PF_bad hr hf]; rfl
theorem trim_le (l : List UInt8) : (Tx.trim l).length ≤ l.length := by
  obtain ⟨q, hq, _⟩ := Tx.trimr_prefix l
  obtain ⟨p, hp, _⟩ := Tx.triml_suffix (Tx.trimr l)
  have h1 := congrArg List.length hq
  have h2 := congrArg List.length hp
  rw [List.length_append] at h1 h2
  show (Tx.triml (Tx.trimr l)).length ≤ l.length
  omega
theorem total_snoc (m : List Fld) (f : Fld) : total (m ++ [f]) = total m + wt f + 1 := by unfold total; rw [List.map_append, List.sum_append, List.length_append]; simp; omega
theorem cut_le (c : UInt8) (l : List UInt8) : (Tx.cutAt c l).1.length + (Tx.cutAt c l).2.1.length ≤ l.length := by
  unfold Tx.cutAt; split
  · rename_i h; simp only [List.length_take, List.length_drop]; omega
  · simp
theorem kp_more {l r : List UInt8} {m : List Fld} {f : Fld} (h : Kp l m r) (hr : r ≠ []) (hf : fld1 r = some f) : Kp l (m ++ [f]) (ln r).2.1 := by
  refine ⟨?_, ?_⟩
  · rw [h.1, PF_step hr hf]
    cases PF (ln r).2.1 <;> simp
  · have hl : (ln r).2.2 = true := by
      unfold fld1 at hf; split at hf
      · rename_i h0; exact h0.1
      · cases hf
    have h1 := ln_len hl
    have h2 := h.2
    have h3 : wt f ≤ (ln r).1.length := by
      unfold fld1 at hf
      split at hf
      · cases hf
        have h4 := cut_le 58 (ln r).1
        have h5 := trim_le (Tx.cutAt 58 (ln r).1).2.1
        have h6 : (Tx.lower (Tx.cutAt 58 (ln r).1).1).length = (Tx.cutAt 58 (ln r).1).1.length := by unfold Tx.lower; simp
        unfold wt
        dsimp only
        omega
      · cases hf
    rw [total_snoc]; omega
def pfr (l : List UInt8) : List Fld × Bool := match PF l with
  | some m => if fldsOk m = true then (m, true) else ([], false)
  | none => ([], false)
theorem pfr_yes {l : List UInt8} {m : List Fld} (h : PF l = some m) (ho : fldsOk m = true) : pfr l = (m, true) := by unfold pfr; rw [h]; simp [ho]
theorem pfr_no {l : List UInt8} {m : List Fld} (h : PF l = some m) (ho : fldsOk m = false) : pfr l = ([], false) := by unfold pfr; rw [h]; simp [ho]
theorem pfr_bad {l : List UInt8} (h : PF l = none) : pfr l = ([], false) := by unfold pfr; rw [h]
end Go.Proofs.YtfkejnbkglaokaaGreatDoor.Flds

/-
  PLAIN FACTS for the law of chapter 5: what GetField finds in what SetField, DropField and MergeFields make, and that the lines of good fields give these fields back.
-/
namespace Go.Proofs.YtfkejnbkglaokaaGreatDoor.Flds
open Go Go.RowKit
set_option linter.unusedVariables false
set_option maxRecDepth 1000000

theorem vals_append (n : List UInt8) (a b : List Fld) : vals n (a ++ b) = vals n a ++ vals n b := by unfold vals; rw [List.filter_append, List.map_append]
theorem vals_setl (n u : List UInt8) : ∀ (s : Bool) (l : List Fld), vals n ((setl n s l).map (pv n u)) = if s = true then [] else if sn n l = true then [u] else []
  | s, [] => by simp [setl, vals, sn]
  | s, f :: r => by
    have h1 := vals_setl n u true r
    have h2 := vals_setl n u s r
    by_cases hf : f.1 = n
    · have hq : (f.1 == n) = true := by simpa using hf
      cases s with
      | true => rw [show setl n true (f :: r) = setl n true r by simp [setl, hf]]; exact h1
      | false =>
        rw [show setl n false (f :: r) = f :: setl n true r by simp [setl, hf], List.map_cons, show sn n (f :: r) = true by unfold sn; rw [List.any_cons, hq]; rfl]
        rw [show pv n u f = (f.1, u) by unfold pv; rw [if_pos hf]]
        have h3 : vals n ((f.1, u) :: (setl n true r).map (pv n u)) = u :: vals n ((setl n true r).map (pv n u)) := by unfold vals; rw [List.filter_cons_of_pos (by exact hq)]; rfl
        rw [h3, h1]; simp
    · have hq : (f.1 == n) = false := by simpa using hf
      rw [show setl n s (f :: r) = f :: setl n s r by simp [setl, hf], List.map_cons, show pv n u f = f by unfold pv; rw [if_neg hf], show sn n (f :: r) = sn n r by unfold sn; rw [List.any_cons, hq]; rfl]
      have h3 : vals n (f :: (setl n s r).map (pv n u)) = vals n ((setl n s r).map (pv n u)) := by unfold vals; rw [List.filter_cons_of_neg (by simp [hf])]
      rw [h3, h2]
theorem vals_fin (n u : List UInt8) (l : List Fld) : vals n (fin n u l) = [u] := by
  unfold fin
  rw [vals_append, vals_setl]
  cases h : sn n l with
  | true => simp [vals]
  | false => simp [vals]
theorem keepn_append (n : List UInt8) (a b : List Fld) : keepn n (a ++ b) = keepn n a ++ keepn n b := by unfold keepn; rw [List.filter_append]
theorem keepn_setl (n u : List UInt8) : ∀ (s : Bool) (l : List Fld), keepn n ((setl n s l).map (pv n u)) = keepn n l
  | s, [] => by simp [setl]
  | s, f :: r => by
    have h1 := keepn_setl n u true r
    have h2 := keepn_setl n u s r
    by_cases hf : f.1 = n
    · have hq : (f.1 != n) = false := by simpa using hf
      have h4 : keepn n (f :: r) = keepn n r := by unfold keepn; rw [List.filter_cons_of_neg (by simp [hf])]
      cases s with
      | true => rw [show setl n true (f :: r) = setl n true r by simp [setl, hf], h4]; exact h1
      | false =>
        rw [show setl n false (f :: r) = f :: setl n true r by simp [setl, hf], List.map_cons, show pv n u f = (f.1, u) by unfold pv; rw [if_pos hf], h4]
        have h3 : keepn n ((f.1, u) :: (setl n true r).map (pv n u)) = keepn n ((setl n true r).map (pv n u)) := by unfold keepn; rw [List.filter_cons_of_neg (by simp [hf])]
        rw [h3]; exact h1
    · rw [show setl n s (f :: r) = f :: setl n s r by simp [setl, hf], List.map_cons, show pv n u f = f by unfold pv; rw [if_neg hf]]
      have h3 : ∀ q : List Fld, keepn n (f :: q) = f :: keepn n q := fun q => by unfold keepn; rw [List.filter_cons_of_pos (by simp [hf])]
      rw [h3, h3, h2]
theorem keepn_fin (n u : List UInt8) (l : List Fld) : keepn n (fin n u l) = keepn n l := by
  unfold fin
  rw [keepn_append, keepn_setl]
  have h2 : keepn n (if sn n l = true then [] else [(n, u)]) = [] := by
    split
    · rfl
    · unfold keepn; rw [List.filter_cons_of_neg (by simp)]; rfl
  rw [h2, List.append_nil]
theorem vals_keepn (n : List UInt8) (l : List Fld) : vals n (keepn n l) = [] := by
  unfold vals keepn
  rw [List.filter_filter, show (fun a : Fld => (a.1 == n) && (a.1 != n)) = fun _ => false by funext a; cases h : (a.1 == n) <;> simp [h, bne]]
  simp
theorem parts_len (n : List UInt8) : ∀ l : List Fld, (vals n l).length + (keepn n l).length = l.length
  | [] => rfl
  | f :: r => by
    have ih := parts_len n r
    by_cases hf : f.1 = n
    · have h1 : vals n (f :: r) = f.2 :: vals n r := by unfold vals; rw [List.filter_cons_of_pos (by simpa using hf)]; rfl
      have h2 : keepn n (f :: r) = keepn n r := by unfold keepn; rw [List.filter_cons_of_neg (by simp [hf])]
      rw [h1, h2, List.length_cons, List.length_cons]; omega
    · have h1 : vals n (f :: r) = vals n r := by unfold vals; rw [List.filter_cons_of_neg (by simp [hf])]
      have h2 : keepn n (f :: r) = f :: keepn n r := by unfold keepn; rw [List.filter_cons_of_pos (by simp [hf])]
      rw [h1, h2, List.length_cons, List.length_cons]; omega
theorem fin_keepn_len (n u : List UInt8) (l : List Fld) : (fin n u l).length = (keepn n l).length + 1 := by
  have h := parts_len n (fin n u l)
  rw [vals_fin, keepn_fin, List.length_singleton] at h
  omega
theorem vals_merged {nw : List Fld} {f : Fld} (l : List Fld) (h : f ∈ nw) : vals f.1 (merged l nw) = vals f.1 nw := by
  unfold merged
  rw [vals_append]
  have h1 : vals f.1 (keepm nw l) = [] := by
    unfold vals
    rw [List.map_eq_nil_iff, List.filter_eq_nil_iff]
    intro g hg he
    unfold keepm at hg
    have h2 := (List.mem_filter.1 hg).2
    have e : g.1 = f.1 := by simpa using he
    rw [e] at h2
    have h3 : has nw f.1 = true := by unfold has; rw [List.any_eq_true]; exact ⟨f, h, by simp⟩
    rw [h3] at h2; cases h2
  rw [h1, List.nil_append]

/-! Lines that are written are read back. -/
theorem no13 {c : UInt8} (h : Tx.tokc c = true) : c ≠ 13 ∧ c ≠ 58 := ⟨fun e => by subst e; revert h; decide, fun e => by subst e; revert h; decide⟩
theorem vno13 {c : UInt8} (h : Tx.okb c = true) : c ≠ 13 := fun e => by subst e; revert h; decide
theorem index_crlf (x r : List UInt8) (hx : ∀ c ∈ x, c ≠ 13) : Lib.index (x ++ 13 :: 10 :: r) [13, 10] = (x.length : Int) := by
  refine Lib.index_first (by simp) (by unfold Lib.occAt; simp) (fun j hj => ?_)
  unfold Lib.occAt
  have h1 : (x ++ 13 :: 10 :: r).drop j = x[j] :: (x.drop (j + 1) ++ 13 :: 10 :: r) := by
    rw [List.drop_append_of_le_length (by omega), List.drop_eq_getElem_cons hj]; rfl
  rw [h1]
  have h2 := hx x[j] (List.getElem_mem _)
  simp [List.isPrefixOf, Ne.symm h2]
theorem ln_line (x r : List UInt8) (hx : ∀ c ∈ x, c ≠ 13) : ln (x ++ 13 :: 10 :: r) = (x, r, true) := by
  unfold ln Lib.cut
  rw [index_crlf x r hx, if_pos (by omega)]
  simp
theorem cut_colon (n r : List UInt8) (hx : ∀ c ∈ n, c ≠ 58) : Tx.cutAt 58 (n ++ 58 :: r) = (n, r, true) := by
  have hi : Tx.idx 58 (n ++ 58 :: r) = n.length := by
    refine Tx.idx_eq (by simp) (fun j hj hlt => ?_) (fun h => ?_)
    · rw [List.getElem_append_left hlt]; exact hx _ (List.getElem_mem _)
    · simp
  unfold Tx.cutAt
  rw [hi, if_pos (by simp)]
  simp
theorem ok_parts {f : Fld} (h : fldOk f = true) : (∀ c ∈ f.1, c ≠ 13 ∧ c ≠ 58) ∧ (∀ c ∈ f.2, c ≠ 13) ∧ Tx.lower f.1 = f.1 ∧ Tx.trim f.2 = f.2 := by
  unfold fldOk at h
  rw [Bool.and_eq_true] at h
  obtain ⟨h1, h2⟩ := h
  unfold Tx.nameOk Tx.token at h1
  unfold Tx.valOk at h2
  simp only [Bool.and_eq_true, List.all_eq_true, beq_iff_eq] at h1 h2
  exact ⟨fun c hc => no13 (h1.1.1 c hc), fun c hc => vno13 (h2.1 c hc), h1.2, h2.2.2⟩
theorem fld1_line {f : Fld} (r : List UInt8) (h : fldOk f = true) : fld1 (line f ++ r) = some f ∧ (ln (line f ++ r)).2.1 = r := by
  obtain ⟨h1, h2, h3, h4⟩ := ok_parts h
  have e : line f ++ r = (f.1 ++ 58 :: 32 :: f.2) ++ 13 :: 10 :: r := by unfold line; simp
  have hn : ∀ c ∈ f.1 ++ 58 :: 32 :: f.2, c ≠ 13 := by
    intro c hc
    rcases List.mem_append.1 hc with hc | hc
    · exact (h1 c hc).1
    · rcases List.mem_cons.1 hc with rfl | hc
      · decide
      · rcases List.mem_cons.1 hc with rfl | hc
        · decide
        · exact h2 c hc
  have hl := ln_line (f.1 ++ 58 :: 32 :: f.2) r hn
  rw [e]
  unfold fld1
  rw [hl]
  dsimp only
  rw [cut_colon f.1 (32 :: f.2) (fun c hc => (h1 c hc).2)]
  dsimp only
  rw [if_pos ⟨rfl, rfl⟩, h3, Tx.trim_blk (by decide), h4]
  exact ⟨rfl, rfl⟩
theorem PF_fmt : ∀ l : List Fld, l.all fldOk = true → PF (fmt l) = some l
  | [], _ => rfl
  | f :: r, h => by
    rw [List.all_cons, Bool.and_eq_true] at h
    obtain ⟨h1, h2⟩ := fld1_line (fmt r) h.1
    have e : fmt (f :: r) = line f ++ fmt r := by unfold fmt; rw [List.flatMap_cons]
    rw [e, PF_step (by unfold line; simp) h1, h2, PF_fmt r h.2]
    rfl
theorem pfr_fmt {l : List Fld} (h : fldsOk l = true) : pfr (fmt l) = (l, true) := by
  have h2 := h
  unfold fldsOk at h2
  rw [Bool.and_eq_true] at h2
  exact pfr_yes (PF_fmt l h2.1) h
end Go.Proofs.YtfkejnbkglaokaaGreatDoor.Flds

/-
  CONTRACTS of what fields a message may have of its own (the model's l11Fields and IsResponse; the program's areOwnFields, isValid and IsResponse); nothing that was there before is changed.
-/
namespace Go.Proofs.YtfkejnbkglaokaaGreatDoor.Msg
open Go Go.RowKit
set_option linter.unusedVariables false
set_option maxRecDepth 1000000

def lenName : List UInt8 := [99, 111, 110, 116, 101, 110, 116, 45, 108, 101, 110, 103, 116, 104]
def ownOk (l : List Flds.Fld) : Bool := Flds.fldsOk l && (decide (l.length < 24) && !Flds.has l lenName)
def BoolEnd (b : Bool) (w : World) (e : Ending) (w' : World) : Prop := e = .returned (.bool b) ∧ Below w.heap.size w w'
theorem ret_b {a b : Bool} (h : a = b) : Ending.returned (.bool a) = .returned (.bool b) := by rw [h]
theorem len_total {l : List Flds.Fld} {n : Nat} (h : Flds.total l ≤ n) : l.length ≤ n := by unfold Flds.total at h; omega

set_option maxHeartbeats 2000000 in
theorem spec_own (v : Value) (B : Nat) (l : List Flds.Fld) (w : World) (h : Flds.Holds w B v l) (hB : B ≤ w.heap.size) (hl : Flds.total l ≤ 1048576) :
    Calls Tryz.prog 47 #[v] w (BoolEnd (ownOk l) w) := by
  have hll := len_total hl
  have HG := Lib.hid (Flds.spec_get v B l lenName w h (Nat.le_trans hl (by decide)))
  have HA := Lib.hid (fun (w1 : World) (hb : Below w.heap.size w w1) => Flds.spec_are v B l w1 (Flds.holds_below h (hb.mono hB)) (Nat.le_trans hB hb.size) hl)
  obtain ⟨a, cap, rfl, _⟩ := Flds.shape_any h
  unfold Flds.GetEnd lenName at HG
  unfold Flds.AreEnd at HA
  have HO : Hid (ownOk l = (Flds.fldsOk l && (decide (l.length < 24) && !Flds.has l lenName))) := Lib.hid rfl
  have hv : decide (0 < (Flds.vals lenName l).length) = Flds.has l lenName := Flds.has_vals l lenName
  unfold lenName at hv HO
  rw [hv] at HG
  clear h hl hv
  generalize Flds.has l [99, 111, 110, 116, 101, 110, 116, 45, 108, 101, 110, 103, 116, 104] = q at HG HO
  generalize Tx.join (Flds.vals [99, 111, 110, 116, 101, 110, 116, 45, 108, 101, 110, 103, 116, 104] l) = t at HG
  generalize Flds.fldsOk l = z at HA HO
  unfold BoolEnd
  by_cases h24 : (l.length : Int) < 24
  · have HE : Hid (ownOk l = (z && !q)) := Lib.hid (by rw [HO.out]; have : decide (l.length < 24) = true := by simp; omega
                                                       rw [this, Bool.true_and])
    clear HO
    cases z <;> cases q
    all_goals
      go_enter Tryz.func47, Tryz.ntmps47
      go_wp2_with (fail)
      go_at_call 45
      refine HG.out.mono ?_
      rintro e w1 ⟨rfl, hb1⟩
      have HB1 := Lib.hid hb1
      clear hb1
      go_wp2_with (fail)
      go_at_call 73
      refine (HA.out _ HB1.out).mono ?_
      rintro e w2 ⟨rfl, hb2⟩
      have HB2 := Lib.hid (Base.then_below HB1.out hb2)
      clear hb2
      go_wp2
      go_ret
      exact ⟨ret_b HE.out.symm, HB2.out⟩
  · have HE : Hid (ownOk l = false) := Lib.hid (by rw [HO.out]; have : decide (l.length < 24) = false := by simp; omega
                                                   rw [this, Bool.false_and, Bool.and_false])
    clear HO
    cases z
    all_goals
      go_enter Tryz.func47, Tryz.ntmps47
      go_wp2_with (fail)
      go_at_call 45
      refine HG.out.mono ?_
      rintro e w1 ⟨rfl, hb1⟩
      have HB1 := Lib.hid hb1
      clear hb1
      go_wp2_with (fail)
      go_at_call 73
      refine (HA.out _ HB1.out).mono ?_
      rintro e w2 ⟨rfl, hb2⟩
      have HB2 := Lib.hid (Base.then_below HB1.out hb2)
      clear hb2
      go_wp2
      go_ret
      exact ⟨ret_b HE.out.symm, HB2.out⟩

set_option maxHeartbeats 2000000 in
theorem impl_own (v : Value) (B : Nat) (l : List Flds.Fld) (w : World) (h : Flds.Holds w B v l) (hB : B ≤ w.heap.size) (hl : Flds.total l ≤ 1048576) :
    Calls Tryz.prog 57 #[v] w (BoolEnd (ownOk l) w) := by
  have hll := len_total hl
  have HA := Lib.hid (Flds.impl_are v B l w h hB hl)
  have HG := Lib.hid (fun (w1 : World) (hb : Below w.heap.size w w1) => Flds.impl_has v B l lenName w1 (Flds.holds_below h (hb.mono hB)) (Nat.le_trans hB hb.size) hll)
  obtain ⟨a, cap, rfl, _⟩ := Flds.shape_any h
  unfold Flds.AreEnd at HA
  unfold lenName at HG
  have HO : Hid (ownOk l = (Flds.fldsOk l && (decide (l.length < 24) && !Flds.has l lenName))) := Lib.hid rfl
  unfold lenName at HO
  clear h hl
  generalize Flds.has l [99, 111, 110, 116, 101, 110, 116, 45, 108, 101, 110, 103, 116, 104] = q at HG HO
  generalize Flds.fldsOk l = z at HA HO
  unfold BoolEnd
  by_cases h24 : (l.length : Int) < 24
  · have HE : Hid (ownOk l = (z && !q)) := Lib.hid (by rw [HO.out]; have : decide (l.length < 24) = true := by simp; omega
                                                       rw [this, Bool.true_and])
    clear HO
    cases z with
    | false =>
      go_enter Tryz.func57, Tryz.ntmps57
      go_wp2_with (fail)
      go_at_call 78
      refine HA.out.mono ?_
      rintro e w1 ⟨rfl, hb1⟩
      have HB1 := Lib.hid hb1
      clear hb1
      go_wp2
      go_ret
      exact ⟨ret_b HE.out.symm, HB1.out⟩
    | true =>
      cases q
      all_goals
        go_enter Tryz.func57, Tryz.ntmps57
        go_wp2_with (fail)
        go_at_call 78
        refine HA.out.mono ?_
        rintro e w1 ⟨rfl, hb1⟩
        have HB1 := Lib.hid hb1
        clear hb1
        go_wp2_with (fail)
        go_at_call 58
        refine (HG.out _ HB1.out).mono ?_
        rintro e w2 ⟨rfl, hb2⟩
        have HB2 := Lib.hid (Base.then_below HB1.out hb2)
        clear hb2
        go_wp2
        go_ret
        exact ⟨ret_b HE.out.symm, HB2.out⟩
  · have HE : Hid (ownOk l = false) := Lib.hid (by rw [HO.out]; have : decide (l.length < 24) = false := by simp; omega
                                                   rw [this, Bool.false_and, Bool.and_false])
    clear HO HA HG
    go_enter Tryz.func57, Tryz.ntmps57
    go_wp2
    go_ret
    exact ⟨ret_b HE.out.symm, Below.refl _ _⟩

def rspOk (c : Int) (l : List Flds.Fld) (b : List UInt8) : Bool := decide (200 ≤ c ∧ c ≤ 599) && (ownOk l && decide (b.length ≤ 600))
theorem kept3 {w w1 : World} {T : TypeId} {a b c : Value} (hb : Below (w.alloc (.cells #[a, b, c] T)).heap.size (w.alloc (.cells #[a, b, c] T)) w1) :
    (w1.cell? ⟨w.heap.size, 0, none⟩ = some a ∧ w1.cell? ⟨w.heap.size, 1, none⟩ = some b ∧ w1.cell? ⟨w.heap.size, 2, none⟩ = some c) ∧ Below w.heap.size w w1 := by
  refine ⟨⟨?_, ?_, ?_⟩, ((Below.refl _ _).alloc (Nat.le_refl _) _).trans (hb.mono (by simp))⟩
  · rw [hb.cell (p := ⟨w.heap.size, 0, none⟩) (by simp), World.cell?_alloc_new]; rfl
  · rw [hb.cell (p := ⟨w.heap.size, 1, none⟩) (by simp), World.cell?_alloc_new]; rfl
  · rw [hb.cell (p := ⟨w.heap.size, 2, none⟩) (by simp), World.cell?_alloc_new]; rfl

set_option maxHeartbeats 2000000 in
theorem spec_isr (c : Int) (v : Value) (B : Nat) (l : List Flds.Fld) (b : List UInt8) (w : World) (h : Flds.Holds w B v l) (hB : B ≤ w.heap.size) (hl : Flds.total l ≤ 1048576) (hbl : b.length ≤ 1048576) :
    Calls Tryz.prog 22 #[.agg #[.int .i64 c, v, .string ⟨b.toArray⟩]] w (BoolEnd (rspOk c l b) w) := by
  have hsb : (⟨b.toArray⟩ : ByteArray).size = b.length := by simp [ByteArray.size]
  have HB0 : Hid (Below w.heap.size w (w.alloc (.cells #[.int .i64 c, v, .string ⟨b.toArray⟩] 31))) := Lib.hid ((Below.refl _ _).alloc (Nat.le_refl _) _)
  have HS := Lib.hid (spec_own v B l _ (Flds.holds_below h (HB0.out.mono hB)) (Nat.le_trans hB HB0.out.size) hl)
  have HK := Lib.hid (fun w1 => kept3 (w := w) (w1 := w1) (T := 31) (a := .int .i64 c) (b := v) (c := .string ⟨b.toArray⟩))
  have HO : Hid (rspOk c l b = (decide (200 ≤ c ∧ c ≤ 599) && (ownOk l && decide (b.length ≤ 600)))) := Lib.hid rfl
  clear h hl
  unfold BoolEnd at HS ⊢
  generalize ownOk l = z at HS HO
  by_cases hc : 200 ≤ c ∧ c ≤ 599
  · have HE : Hid (rspOk c l b = (z && decide ((b.length : Int) ≤ 600))) := Lib.hid (by rw [HO.out, decide_eq_true hc, Bool.true_and]; congr 1; rw [Bool.eq_iff_iff]; simp; omega)
    obtain ⟨h1, h2⟩ := hc
    clear HO
    cases z
    all_goals
      go_enter Tryz.func22, Tryz.ntmps22
      go_wp2_with (fail)
      go_at_call 44
      refine (NumDiv.in_yes _ _ _ _ h1 h2).mono ?_
      rintro e w0 ⟨rfl, rfl⟩
      go_wp2_with (fail)
      go_at_call 47
      refine HS.out.mono ?_
      rintro e w1 ⟨rfl, hb1⟩
      obtain ⟨⟨q0, q1, q2⟩, hbw⟩ := HK.out _ hb1
      have HBW := Lib.hid hbw
      clear hb1 hbw
      go_wp2
      go_ret
      exact ⟨ret_b (by rw [HE.out]; simp), HBW.out⟩
  · have HE : Hid (rspOk c l b = false) := Lib.hid (by rw [HO.out, decide_eq_false hc, Bool.false_and])
    have HC := Lib.hid (show c < 200 ∨ 599 < c by omega)
    clear HO hc
    go_enter Tryz.func22, Tryz.ntmps22
    go_wp2_with (fail)
    go_at_call 44
    refine (NumDiv.in_no _ _ _ _ HC.out).mono ?_
    rintro e w0 ⟨rfl, rfl⟩
    go_wp2
    go_ret
    exact ⟨ret_b HE.out.symm, HB0.out⟩
end Go.Proofs.YtfkejnbkglaokaaGreatDoor.Msg

/-
  CONTRACTS of what is a valid response; nothing that was there before is changed.
-/
namespace Go.Proofs.YtfkejnbkglaokaaGreatDoor.Msg
open Go Go.RowKit
set_option linter.unusedVariables false
set_option maxRecDepth 1000000

set_option maxHeartbeats 2000000 in
theorem impl_valid_rsp (c : Int) (v : Value) (B : Nat) (l : List Flds.Fld) (b : List UInt8) (w : World) (h : Flds.Holds w B v l) (hB : B ≤ w.heap.size) (hl : Flds.total l ≤ 1048576) (hbl : b.length ≤ 1048576) :
    Calls Tryz.prog 38 #[.agg #[.int .i64 c, v, .string ⟨b.toArray⟩]] w (BoolEnd (rspOk c l b) w) := by
  have hsb : (⟨b.toArray⟩ : ByteArray).size = b.length := by simp [ByteArray.size]
  have HB0 : Hid (Below w.heap.size w (w.alloc (.cells #[.int .i64 c, v, .string ⟨b.toArray⟩] 31))) := Lib.hid ((Below.refl _ _).alloc (Nat.le_refl _) _)
  have HS := Lib.hid (impl_own v B l _ (Flds.holds_below h (HB0.out.mono hB)) (Nat.le_trans hB HB0.out.size) hl)
  have HK := Lib.hid (fun w1 => kept3 (w := w) (w1 := w1) (T := 31) (a := .int .i64 c) (b := v) (c := .string ⟨b.toArray⟩))
  have HO : Hid (rspOk c l b = (decide (200 ≤ c ∧ c ≤ 599) && (ownOk l && decide (b.length ≤ 600)))) := Lib.hid rfl
  clear h hl
  unfold BoolEnd at HS ⊢
  generalize ownOk l = z at HS HO
  by_cases hc : 200 ≤ c ∧ c ≤ 599
  · have HE : Hid (rspOk c l b = (z && decide ((b.length : Int) ≤ 600))) := Lib.hid (by rw [HO.out, decide_eq_true hc, Bool.true_and]; congr 1; rw [Bool.eq_iff_iff]; simp; omega)
    obtain ⟨h1, h2⟩ := hc
    clear HO
    cases z
    all_goals
      go_enter Tryz.func38, Tryz.ntmps38
      go_wp2_with (fail)
      go_at_call 57
      refine HS.out.mono ?_
      rintro e w1 ⟨rfl, hb1⟩
      obtain ⟨⟨q0, q1, q2⟩, hbw⟩ := HK.out _ hb1
      have HBW := Lib.hid hbw
      clear hb1 hbw
      go_wp2
      go_ret
      exact ⟨ret_b (by rw [HE.out]; simp), HBW.out⟩
  · have HE : Hid (rspOk c l b = false) := Lib.hid (by rw [HO.out, decide_eq_false hc, Bool.false_and])
    clear HO HS HK
    by_cases h1 : 200 ≤ c
    · have h2 : ¬ c ≤ 599 := by omega
      clear hc
      go_enter Tryz.func38, Tryz.ntmps38
      go_wp2
      go_ret
      exact ⟨ret_b HE.out.symm, HB0.out⟩
    · clear hc
      go_enter Tryz.func38, Tryz.ntmps38
      go_wp2
      go_ret
      exact ⟨ret_b HE.out.symm, HB0.out⟩

end Go.Proofs.YtfkejnbkglaokaaGreatDoor.Msg

/-
  PLAIN FACTS on the parts of a request: methods, hosts, targets.
-/
namespace Go.Proofs.YtfkejnbkglaokaaGreatDoor.Msg
open Go
set_option linter.unusedVariables false
set_option maxRecDepth 1000000

def nolow (c : UInt8) : Bool := !decide (97 ≤ c.toNat ∧ c.toNat ≤ 122)
def methOk (m : List UInt8) : Bool := m.all nolow && Tx.token m
def hbs : List UInt8 := [97, 98, 99, 100, 101, 102, 103, 104, 105, 106, 107, 108, 109, 110, 111, 112, 113, 114, 115, 116, 117, 118, 119, 120, 121, 122, 48, 49, 50, 51, 52, 53, 54, 55, 56, 57, 45, 46]
def hb (c : UInt8) : Bool := decide (97 ≤ c.toNat ∧ c.toNat ≤ 122) || (decide (48 ≤ c.toNat ∧ c.toNat ≤ 57) || (c == 45 || c == 46))
def hostOk (h : List UInt8) : Bool := h.all hb && decide (1 ≤ h.length ∧ h.length ≤ 40)
def tb (c : UInt8) : Bool := decide (33 ≤ c.toNat ∧ c.toNat ≤ 126)
def targOk (t : List UInt8) : Bool := t.all tb && (decide (1 ≤ t.length ∧ t.length ≤ 100) && t.head? == some 47)
theorem hb_set : ∀ c : UInt8, hbs.contains c = hb c := by
  have h : ∀ n : Fin 256, hbs.contains (UInt8.ofNat n.1) = hb (UInt8.ofNat n.1) := by decide +kernel
  intro c
  have := h ⟨c.toNat, c.toNat_lt⟩
  simpa using this
/-- Trimmed to nothing: every byte is of the set. -/
theorem trim_all (l : List UInt8) (p : UInt8 → Bool) (st : List UInt8) (hp : ∀ c, st.contains c = p c) : Lib.trimS l st = [] ↔ l.all p = true := by
  unfold Lib.trimS Lib.trimLeftS Lib.trimRightS
  have hf : (fun b : UInt8 => st.contains b) = p := funext hp
  rw [show (fun x : UInt8 => st.contains x) = p from hf]
  rw [List.all_eq_true]
  have key : ∀ m : List UInt8, m.dropWhile p = [] ↔ ∀ x ∈ m, p x = true := by
    intro m
    induction m with
    | nil => simp
    | cons a r ih =>
      by_cases h : p a = true
      · rw [List.dropWhile_cons_of_pos h, ih]; simp [h]
      · rw [List.dropWhile_cons_of_neg h]; simp [h]
  constructor
  · intro h
    have h1 := (key _).1 h
    -- what is left behind the first trimming is all of the set; so is what was taken away
    intro x hx
    by_cases hp2 : p x = true
    · exact hp2
    · exfalso
      have h2 : l.reverse.dropWhile p ≠ [] := fun e => hp2 ((key _).1 e x (by simpa using hx))
      have h3 : ∀ y ∈ l.reverse.dropWhile p, p y = true := fun y hy => h1 y (by simpa using hy)
      cases hd : l.reverse.dropWhile p with
      | nil => exact h2 hd
      | cons a r =>
        have : p a = false := by
          have := List.head?_dropWhile_not p l.reverse
          rw [hd] at this; simpa using this
        rw [hd] at h3
        have := h3 a (by simp)
        simp_all
  · intro h
    have h1 : l.reverse.dropWhile p = [] := (key _).2 (fun x hx => h x (by simpa using hx))
    rw [h1]; rfl
theorem trim_hb (l : List UInt8) : Lib.trimS l hbs = [] ↔ l.all hb = true := trim_all l hb hbs hb_set
/-- A token is of ASCII bytes. -/
theorem token_ascii {m : List UInt8} (h : Tx.token m = true) : ∀ (j : Nat) (b : UInt8), m[j]? = some b → b.toNat < 128 := by
  intro j b hb
  unfold Tx.token at h
  rw [Bool.and_eq_true, List.all_eq_true] at h
  have h1 := h.1 b (List.mem_of_getElem? hb)
  unfold Tx.tokc Tx.letc at h1
  rw [Bool.or_eq_true] at h1
  rcases h1 with h1 | h1
  · have hm : b ∈ Tx.marks := by simpa using h1
    have hall : ∀ x ∈ Tx.marks, x.toNat < 128 := by decide
    exact hall b hm
  · simp at h1; omega
theorem upper_same (m : List UInt8) : Lib.toUpperA m = m ↔ m.all nolow = true := by
  unfold Lib.toUpperA
  rw [List.all_eq_true]
  have one : ∀ c : UInt8, Lib.upperB c = c ↔ nolow c = true := by
    have h : ∀ n : Fin 256, Lib.upperB (UInt8.ofNat n.1) = UInt8.ofNat n.1 ↔ nolow (UInt8.ofNat n.1) = true := by decide +kernel
    intro c
    have := h ⟨c.toNat, c.toNat_lt⟩
    simpa using this
  constructor
  · intro h c hc
    obtain ⟨j, hj, rfl⟩ := List.getElem_of_mem hc
    have := congrArg (fun z : List UInt8 => z[j]?) h
    simp [hj] at this
    exact (one _).1 this
  · intro h
    conv => rhs; rw [← List.map_id m]
    apply List.map_congr_left
    intro c hc
    exact (one c).2 (h c hc)
theorem up_len (m : List UInt8) : (Lib.toUpperA m).length = m.length := by unfold Lib.toUpperA; simp
/-- One byte more, one byte that is not of them, and all of them. -/
theorem all_more {p : UInt8 → Bool} {s : ByteArray} {k : Nat} (h : k < s.size) (ha : (s.data.toList.take k).all p = true) (hc : p s[k] = true) : (s.data.toList.take (k + 1)).all p = true := by
  rw [Tx.take_snoc s k h, List.all_append, ha, List.all_cons, hc]; rfl
theorem all_bad {p : UInt8 → Bool} {s : ByteArray} {k : Nat} (h : k < s.size) (hc : p s[k] = false) : s.data.toList.all p = false := by
  rw [Bool.eq_false_iff]
  intro ha
  have hm : s[k] ∈ s.data.toList := by
    rw [← List.take_append_drop k s.data.toList, Tx.drop_cons s k h]; simp
  rw [List.all_eq_true] at ha
  have := ha _ hm
  rw [hc] at this; cases this
theorem all_end {p : UInt8 → Bool} {s : ByteArray} {k : Nat} (h : k = s.size) (ha : (s.data.toList.take k).all p = true) : s.data.toList.all p = true := by
  rwa [List.take_of_length_le (by rw [Tx.list_len]; omega)] at ha
theorem nolow_no {c : UInt8} (h : nolow c = false) : 97 ≤ (c.toNat : Int) ∧ (c.toNat : Int) ≤ 122 := by unfold nolow at h; simp at h; omega
theorem nolow_yes {c : UInt8} (h : nolow c = true) : (c.toNat : Int) < 97 ∨ 122 < (c.toNat : Int) := by unfold nolow at h; simp at h; omega
theorem tb_no {c : UInt8} (h : tb c = false) : (c.toNat : Int) < 33 ∨ 126 < (c.toNat : Int) := by unfold tb at h; simp at h; omega
theorem tb_yes {c : UInt8} (h : tb c = true) : 33 ≤ (c.toNat : Int) ∧ (c.toNat : Int) ≤ 126 := by unfold tb at h; simp at h; omega
theorem b45 (c : UInt8) : ((c.toNat : Int) == 45) = (c == 45) := Tx.eq_nat (n := 45) (by omega)
theorem b46 (c : UInt8) : ((c.toNat : Int) == 46) = (c == 46) := Tx.eq_nat (n := 46) (by omega)
theorem hb_cases (c : UInt8) : (hb c = true ∧ (97 ≤ (c.toNat : Int) ∧ (c.toNat : Int) ≤ 122)) ∨
    (hb c = true ∧ ((c.toNat : Int) < 97 ∨ 122 < (c.toNat : Int)) ∧ (48 ≤ (c.toNat : Int) ∧ (c.toNat : Int) ≤ 57)) ∨
    (hb c = true ∧ ((c.toNat : Int) < 97 ∨ 122 < (c.toNat : Int)) ∧ ((c.toNat : Int) < 48 ∨ 57 < (c.toNat : Int)) ∧ ((c.toNat : Int) == 45) = true) ∨
    (hb c = true ∧ ((c.toNat : Int) < 97 ∨ 122 < (c.toNat : Int)) ∧ ((c.toNat : Int) < 48 ∨ 57 < (c.toNat : Int)) ∧ ((c.toNat : Int) == 45) = false ∧ ((c.toNat : Int) == 46) = true) ∨
    (hb c = false ∧ ((c.toNat : Int) < 97 ∨ 122 < (c.toNat : Int)) ∧ ((c.toNat : Int) < 48 ∨ 57 < (c.toNat : Int)) ∧ ((c.toNat : Int) == 45) = false ∧ ((c.toNat : Int) == 46) = false) := by
  by_cases h1 : 97 ≤ c.toNat ∧ c.toNat ≤ 122
  · left; exact ⟨by unfold hb; simp [h1], by omega⟩
  by_cases h2 : 48 ≤ c.toNat ∧ c.toNat ≤ 57
  · right; left; exact ⟨by unfold hb; simp [h2], by omega, by omega⟩
  rw [b45, b46]
  cases h3 : c == 45
  · cases h4 : c == 46
    · right; right; right; right
      exact ⟨by unfold hb; rw [h3, h4, decide_eq_false h1, decide_eq_false h2]; rfl, by omega, by omega, rfl, rfl⟩
    · right; right; right; left
      exact ⟨by unfold hb; rw [h4]; simp, by omega, by omega, rfl, rfl⟩
  · right; right; left
    exact ⟨by unfold hb; rw [h3]; simp, by omega, by omega, rfl⟩
end Go.Proofs.YtfkejnbkglaokaaGreatDoor.Msg

/-
  PLAIN FACTS: blocks that a call has just laid, one, two or three, read on as they were laid behind whatever only adds.
-/
namespace Go.Proofs.YtfkejnbkglaokaaGreatDoor.Kept
open Go Go.RowKit
set_option linter.unusedVariables false
set_option maxRecDepth 1000000

theorem below_in {w w1 : World} {o : Obj} (h : Below (w.alloc o).heap.size (w.alloc o) w1) : Below w.heap.size w w1 := ((Below.refl _ _).alloc (Nat.le_refl _) _).trans (h.mono (by simp))
theorem one {w w1 : World} {T : TypeId} {a : Array Value} (hb : Below (w.alloc (.cells a T)).heap.size (w.alloc (.cells a T)) w1) :
    (∀ j u, a[j]? = some u → w1.cell? ⟨w.heap.size, j, none⟩ = some u) ∧ ∀ j, w1.frozen? ⟨w.heap.size, j, none⟩ = false := by
  refine ⟨fun j u h => ?_, fun j => ?_⟩
  · rw [hb.cell (p := ⟨w.heap.size, j, none⟩) (by simp), World.cell?_alloc_new]; exact h
  · rw [hb.frozen (p := ⟨w.heap.size, j, none⟩) (by simp)]; simp [go_sem]
theorem two {w w1 : World} {o : Obj} {T : TypeId} {a : Array Value} (hb : Below ((w.alloc o).alloc (.cells a T)).heap.size ((w.alloc o).alloc (.cells a T)) w1) :
    (∀ j u, a[j]? = some u → w1.cell? ⟨w.heap.size + 1, j, none⟩ = some u) ∧ ∀ j, w1.frozen? ⟨w.heap.size + 1, j, none⟩ = false := by
  have h := one hb
  rw [show (w.alloc o).heap.size = w.heap.size + 1 by simp] at h
  exact h
theorem three {w w1 : World} {o o2 : Obj} {T : TypeId} {a : Array Value} (hb : Below (((w.alloc o).alloc o2).alloc (.cells a T)).heap.size (((w.alloc o).alloc o2).alloc (.cells a T)) w1) :
    (∀ j u, a[j]? = some u → w1.cell? ⟨w.heap.size + 1 + 1, j, none⟩ = some u) ∧ ∀ j, w1.frozen? ⟨w.heap.size + 1 + 1, j, none⟩ = false := by
  have h := one hb
  rw [show ((w.alloc o).alloc o2).heap.size = w.heap.size + 1 + 1 by simp] at h
  exact h
end Go.Proofs.YtfkejnbkglaokaaGreatDoor.Kept
