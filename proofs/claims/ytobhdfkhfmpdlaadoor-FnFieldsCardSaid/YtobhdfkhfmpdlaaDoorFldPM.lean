/-
  PLAIN FACTS: the fields that lines give; no world.
-/
import Derived.Test.YtobhdfkhfmpdlaaDoorFldAre
import Derived.Test.YtobhdfkhfmpdlaaDoorCutOne
import Derived.Test.YtobhdfkhfmpdlaaDoorTrimFn
import Derived.Test.YtobhdfkhfmpdlaaDoorLowM
import Derived.Lib.CutLaws
namespace Go.Proofs.YtobhdfkhfmpdlaaDoor.Flds
open Go Go.RowKit
set_option linter.unusedVariables false
set_option maxRecDepth 1000000

def ln (s : List UInt8) : List UInt8 × List UInt8 × Bool := Lib.cut s [13, 10]
def fld1 (s : List UInt8) : Option Fld := if (ln s).2.2 = true ∧ (Tx.cutAt 58 (ln s).1).2.2 = true then some (Tx.lower (Tx.cutAt 58 (ln s).1).1, Tx.trim (Tx.cutAt 58 (ln s).1).2.1) else none
def pf : Nat → List UInt8 → Option (List Fld)
  | 0, s => if s = [] then some [] else none
  | n + 1, s => if s = [] then some [] else (fld1 s).bind (fun f => (pf n (ln s).2.1).map (f :: ·))
def PF (s : List UInt8) : Option (List Fld) := pf s.length s
theorem ln_len {s : List UInt8} (h : (ln s).2.2 = true) : (ln s).1.length + (ln s).2.1.length + 2 = s.length := by
  unfold ln Lib.cut at h ⊢
  split at h
  · rename_i h0
    rw [if_pos h0]
    rcases Lib.indexB_cases ⟨s.toArray⟩ ⟨#[13, 10]⟩ with e | ⟨i, e, hi⟩
    · have e' : Lib.index s [13, 10] = -1 := by unfold Lib.indexB at e; exact e
      omega
    · have e' : Lib.index s [13, 10] = (i : Int) := by unfold Lib.indexB at e; exact e
      rw [e']
      have hs : (⟨s.toArray⟩ : ByteArray).size = s.length := by simp [ByteArray.size]
      have h2 : (⟨#[13, 10]⟩ : ByteArray).size = 2 := rfl
      simp only [Int.toNat_natCast, List.length_take, List.length_drop, List.length_cons, List.length_nil]
      omega
  · cases h
theorem pf_fuel : ∀ (n m : Nat) (s : List UInt8), s.length ≤ n → s.length ≤ m → pf n s = pf m s
  | 0, 0, _, _, _ => rfl
  | 0, m + 1, s, h, _ => by have : s = [] := List.length_eq_zero_iff.1 (by omega); subst this; simp [pf]
  | n + 1, 0, s, _, h => by have : s = [] := List.length_eq_zero_iff.1 (by omega); subst this; simp [pf]
  | n + 1, m + 1, s, h1, h2 => by
    unfold pf
    split
    · rfl
    · by_cases hf : (ln s).2.2 = true
      · have := ln_len hf
        rw [pf_fuel n m _ (by omega) (by omega)]
      · unfold fld1; rw [if_neg (fun h => hf h.1)]; rfl
theorem PF_nil : PF [] = some [] := rfl
theorem PF_bad {s : List UInt8} (hs : s ≠ []) (h : fld1 s = none) : PF s = none := by
  unfold PF
  cases s with
  | nil => exact absurd rfl hs
  | cons a r => unfold pf; rw [List.length_cons]; simp only [pf]; rw [if_neg hs, h]; rfl
theorem PF_step {s : List UInt8} {f : Fld} (hs : s ≠ []) (h : fld1 s = some f) : PF s = (PF (ln s).2.1).map (f :: ·) := by
  have hf : (ln s).2.2 = true := by
    unfold fld1 at h; split at h
    · rename_i h0; exact h0.1
    · cases h
  have hl := ln_len hf
  unfold PF
  obtain ⟨n, hn⟩ : ∃ n, s.length = n + 1 := ⟨s.length - 1, by have : 0 < s.length := List.length_pos_iff.2 hs; omega⟩
  rw [hn]
  conv => lhs; unfold pf
  rw [if_neg hs, h, pf_fuel n (ln s).2.1.length _ (by omega) (Nat.le_refl _)]
  rfl
/-- What the loop keeps: what the whole text gives is what is read already and what the rest gives. -/
def Kp (l : List UInt8) (m : List Fld) (r : List UInt8) : Prop := PF l = (PF r).map (m ++ ·) ∧ total m + r.length ≤ l.length
theorem kp_start (l : List UInt8) : Kp l [] l := by
  refine ⟨?_, by rw [total_nil]; omega⟩
  cases PF l <;> simp
theorem kp_end {l : List UInt8} {m : List Fld} (h : Kp l m []) : PF l = some m := by rw [h.1, PF_nil]; simp
theorem kp_bad {l r : List UInt8} {m : List Fld} (h : Kp l m r) (hr : r ≠ []) (hf : fld1 r = none) : PF l = none := by rw [h.1, PF_bad hr hf]; rfl
theorem trim_le (l : List UInt8) : (Tx.trim l).length ≤ l.length := by
  obtain ⟨q, hq, _⟩ := Tx.trimr_prefix l
  obtain ⟨p, hp, _⟩ := Tx.triml_suffix (Tx.trimr l)
  have h1 := congrArg List.length hq
  have h2 := congrArg List.length hp
  rw [List.length_append] at h1 h2
  show (Tx.triml (Tx.trimr l)).length ≤ l.length
  omega
theorem total_snoc (m : List Fld) (f : Fld) : total (m ++ [f]) = total m + wt f + 1 := by unfold total; rw [List.map_append, List.sum_append, List.length_append]; simp; omega
theorem cut_le (c : UInt8) (l : List UInt8) : (Tx.cutAt c l).1.length + (Tx.cutAt c l).2.1.length ≤ l.length := by
  unfold Tx.cutAt; split
  · rename_i h; simp only [List.length_take, List.length_drop]; omega
  · simp
theorem kp_more {l r : List UInt8} {m : List Fld} {f : Fld} (h : Kp l m r) (hr : r ≠ []) (hf : fld1 r = some f) : Kp l (m ++ [f]) (ln r).2.1 := by
  refine ⟨?_, ?_⟩
  · rw [h.1, PF_step hr hf]
    cases PF (ln r).2.1 <;> simp
  · have hl : (ln r).2.2 = true := by
      unfold fld1 at hf; split at hf
      · rename_i h0; exact h0.1
      · cases hf
    have h1 := ln_len hl
    have h2 := h.2
    have h3 : wt f ≤ (ln r).1.length := by
      unfold fld1 at hf
      split at hf
      · cases hf
        have h4 := cut_le 58 (ln r).1
        have h5 := trim_le (Tx.cutAt 58 (ln r).1).2.1
        have h6 : (Tx.lower (Tx.cutAt 58 (ln r).1).1).length = (Tx.cutAt 58 (ln r).1).1.length := by unfold Tx.lower; simp
        unfold wt
        dsimp only
        omega
      · cases hf
    rw [total_snoc]; omega
def pfr (l : List UInt8) : List Fld × Bool := match PF l with
  | some m => if fldsOk m = true then (m, true) else ([], false)
  | none => ([], false)
theorem pfr_yes {l : List UInt8} {m : List Fld} (h : PF l = some m) (ho : fldsOk m = true) : pfr l = (m, true) := by unfold pfr; rw [h]; simp [ho]
theorem pfr_no {l : List UInt8} {m : List Fld} (h : PF l = some m) (ho : fldsOk m = false) : pfr l = ([], false) := by unfold pfr; rw [h]; simp [ho]
theorem pfr_bad {l : List UInt8} (h : PF l = none) : pfr l = ([], false) := by unfold pfr; rw [h]
end Go.Proofs.YtobhdfkhfmpdlaaDoor.Flds
