/-
  PLAIN FACTS for the law of chapter 5: what GetField finds in what SetField, DropField and MergeFields make, and that the lines of good fields give these fields back.
-/
import Derived.Test.YtobhdfkhfmpdlaaDoorFldSetI
import Derived.Test.YtobhdfkhfmpdlaaDoorFldDrop
import Derived.Test.YtobhdfkhfmpdlaaDoorFldMrg
import Derived.Test.YtobhdfkhfmpdlaaDoorFldFmt
import Derived.Test.YtobhdfkhfmpdlaaDoorFldPM
import Derived.Lib.IndexLaws
namespace Go.Proofs.YtobhdfkhfmpdlaaDoor.Flds
open Go Go.RowKit
set_option linter.unusedVariables false
set_option maxRecDepth 1000000

theorem vals_append (n : List UInt8) (a b : List Fld) : vals n (a ++ b) = vals n a ++ vals n b := by unfold vals; rw [List.filter_append, List.map_append]
theorem vals_setl (n u : List UInt8) : ∀ (s : Bool) (l : List Fld), vals n ((setl n s l).map (pv n u)) = if s = true then [] else if sn n l = true then [u] else []
  | s, [] => by simp [setl, vals, sn]
  | s, f :: r => by
    have h1 := vals_setl n u true r
    have h2 := vals_setl n u s r
    by_cases hf : f.1 = n
    · have hq : (f.1 == n) = true := by simpa using hf
      cases s with
      | true => rw [show setl n true (f :: r) = setl n true r by simp [setl, hf]]; exact h1
      | false =>
        rw [show setl n false (f :: r) = f :: setl n true r by simp [setl, hf], List.map_cons, show sn n (f :: r) = true by unfold sn; rw [List.any_cons, hq]; rfl]
        rw [show pv n u f = (f.1, u) by unfold pv; rw [if_pos hf]]
        have h3 : vals n ((f.1, u) :: (setl n true r).map (pv n u)) = u :: vals n ((setl n true r).map (pv n u)) := by unfold vals; rw [List.filter_cons_of_pos (by exact hq)]; rfl
        rw [h3, h1]; simp
    · have hq : (f.1 == n) = false := by simpa using hf
      rw [show setl n s (f :: r) = f :: setl n s r by simp [setl, hf], List.map_cons, show pv n u f = f by unfold pv; rw [if_neg hf], show sn n (f :: r) = sn n r by unfold sn; rw [List.any_cons, hq]; rfl]
      have h3 : vals n (f :: (setl n s r).map (pv n u)) = vals n ((setl n s r).map (pv n u)) := by unfold vals; rw [List.filter_cons_of_neg (by simp [hf])]
      rw [h3, h2]
theorem vals_fin (n u : List UInt8) (l : List Fld) : vals n (fin n u l) = [u] := by
  unfold fin
  rw [vals_append, vals_setl]
  cases h : sn n l with
  | true => simp [vals]
  | false => simp [vals]
theorem keepn_append (n : List UInt8) (a b : List Fld) : keepn n (a ++ b) = keepn n a ++ keepn n b := by unfold keepn; rw [List.filter_append]
theorem keepn_setl (n u : List UInt8) : ∀ (s : Bool) (l : List Fld), keepn n ((setl n s l).map (pv n u)) = keepn n l
  | s, [] => by simp [setl]
  | s, f :: r => by
    have h1 := keepn_setl n u true r
    have h2 := keepn_setl n u s r
    by_cases hf : f.1 = n
    · have hq : (f.1 != n) = false := by simpa using hf
      have h4 : keepn n (f :: r) = keepn n r := by unfold keepn; rw [List.filter_cons_of_neg (by simp [hf])]
      cases s with
      | true => rw [show setl n true (f :: r) = setl n true r by simp [setl, hf], h4]; exact h1
      | false =>
        rw [show setl n false (f :: r) = f :: setl n true r by simp [setl, hf], List.map_cons, show pv n u f = (f.1, u) by unfold pv; rw [if_pos hf], h4]
        have h3 : keepn n ((f.1, u) :: (setl n true r).map (pv n u)) = keepn n ((setl n true r).map (pv n u)) := by unfold keepn; rw [List.filter_cons_of_neg (by simp [hf])]
        rw [h3]; exact h1
    · rw [show setl n s (f :: r) = f :: setl n s r by simp [setl, hf], List.map_cons, show pv n u f = f by unfold pv; rw [if_neg hf]]
      have h3 : ∀ q : List Fld, keepn n (f :: q) = f :: keepn n q := fun q => by unfold keepn; rw [List.filter_cons_of_pos (by simp [hf])]
      rw [h3, h3, h2]
theorem keepn_fin (n u : List UInt8) (l : List Fld) : keepn n (fin n u l) = keepn n l := by
  unfold fin
  rw [keepn_append, keepn_setl]
  have h2 : keepn n (if sn n l = true then [] else [(n, u)]) = [] := by
    split
    · rfl
    · unfold keepn; rw [List.filter_cons_of_neg (by simp)]; rfl
  rw [h2, List.append_nil]
theorem vals_keepn (n : List UInt8) (l : List Fld) : vals n (keepn n l) = [] := by
  unfold vals keepn
  rw [List.filter_filter, show (fun a : Fld => (a.1 == n) && (a.1 != n)) = fun _ => false by funext a; cases h : (a.1 == n) <;> simp [h, bne]]
  simp
theorem parts_len (n : List UInt8) : ∀ l : List Fld, (vals n l).length + (keepn n l).length = l.length
  | [] => rfl
  | f :: r => by
    have ih := parts_len n r
    by_cases hf : f.1 = n
    · have h1 : vals n (f :: r) = f.2 :: vals n r := by unfold vals; rw [List.filter_cons_of_pos (by simpa using hf)]; rfl
      have h2 : keepn n (f :: r) = keepn n r := by unfold keepn; rw [List.filter_cons_of_neg (by simp [hf])]
      rw [h1, h2, List.length_cons, List.length_cons]; omega
    · have h1 : vals n (f :: r) = vals n r := by unfold vals; rw [List.filter_cons_of_neg (by simp [hf])]
      have h2 : keepn n (f :: r) = f :: keepn n r := by unfold keepn; rw [List.filter_cons_of_pos (by simp [hf])]
      rw [h1, h2, List.length_cons, List.length_cons]; omega
theorem fin_keepn_len (n u : List UInt8) (l : List Fld) : (fin n u l).length = (keepn n l).length + 1 := by
  have h := parts_len n (fin n u l)
  rw [vals_fin, keepn_fin, List.length_singleton] at h
  omega
theorem vals_merged {nw : List Fld} {f : Fld} (l : List Fld) (h : f ∈ nw) : vals f.1 (merged l nw) = vals f.1 nw := by
  unfold merged
  rw [vals_append]
  have h1 : vals f.1 (keepm nw l) = [] := by
    unfold vals
    rw [List.map_eq_nil_iff, List.filter_eq_nil_iff]
    intro g hg he
    unfold keepm at hg
    have h2 := (List.mem_filter.1 hg).2
    have e : g.1 = f.1 := by simpa using he
    rw [e] at h2
    have h3 : has nw f.1 = true := by unfold has; rw [List.any_eq_true]; exact ⟨f, h, by simp⟩
    rw [h3] at h2; cases h2
  rw [h1, List.nil_append]

/-! Lines that are written are read back. -/
theorem no13 {c : UInt8} (h : Tx.tokc c = true) : c ≠ 13 ∧ c ≠ 58 := ⟨fun e => by subst e; revert h; decide, fun e => by subst e; revert h; decide⟩
theorem vno13 {c : UInt8} (h : Tx.okb c = true) : c ≠ 13 := fun e => by subst e; revert h; decide
theorem index_crlf (x r : List UInt8) (hx : ∀ c ∈ x, c ≠ 13) : Lib.index (x ++ 13 :: 10 :: r) [13, 10] = (x.length : Int) := by
  refine Lib.index_first (by simp) (by unfold Lib.occAt; simp) (fun j hj => ?_)
  unfold Lib.occAt
  have h1 : (x ++ 13 :: 10 :: r).drop j = x[j] :: (x.drop (j + 1) ++ 13 :: 10 :: r) := by
    rw [List.drop_append_of_le_length (by omega), List.drop_eq_getElem_cons hj]; rfl
  rw [h1]
  have h2 := hx x[j] (List.getElem_mem _)
  simp [List.isPrefixOf, Ne.symm h2]
theorem ln_line (x r : List UInt8) (hx : ∀ c ∈ x, c ≠ 13) : ln (x ++ 13 :: 10 :: r) = (x, r, true) := by
  unfold ln Lib.cut
  rw [index_crlf x r hx, if_pos (by omega)]
  simp
theorem cut_colon (n r : List UInt8) (hx : ∀ c ∈ n, c ≠ 58) : Tx.cutAt 58 (n ++ 58 :: r) = (n, r, true) := by
  have hi : Tx.idx 58 (n ++ 58 :: r) = n.length := by
    refine Tx.idx_eq (by simp) (fun j hj hlt => ?_) (fun h => ?_)
    · rw [List.getElem_append_left hlt]; exact hx _ (List.getElem_mem _)
    · simp
  unfold Tx.cutAt
  rw [hi, if_pos (by simp)]
  simp
theorem ok_parts {f : Fld} (h : fldOk f = true) : (∀ c ∈ f.1, c ≠ 13 ∧ c ≠ 58) ∧ (∀ c ∈ f.2, c ≠ 13) ∧ Tx.lower f.1 = f.1 ∧ Tx.trim f.2 = f.2 := by
  unfold fldOk at h
  rw [Bool.and_eq_true] at h
  obtain ⟨h1, h2⟩ := h
  unfold Tx.nameOk Tx.token at h1
  unfold Tx.valOk at h2
  simp only [Bool.and_eq_true, List.all_eq_true, beq_iff_eq] at h1 h2
  exact ⟨fun c hc => no13 (h1.1.1 c hc), fun c hc => vno13 (h2.1 c hc), h1.2, h2.2.2⟩
theorem fld1_line {f : Fld} (r : List UInt8) (h : fldOk f = true) : fld1 (line f ++ r) = some f ∧ (ln (line f ++ r)).2.1 = r := by
  obtain ⟨h1, h2, h3, h4⟩ := ok_parts h
  have e : line f ++ r = (f.1 ++ 58 :: 32 :: f.2) ++ 13 :: 10 :: r := by unfold line; simp
  have hn : ∀ c ∈ f.1 ++ 58 :: 32 :: f.2, c ≠ 13 := by
    intro c hc
    rcases List.mem_append.1 hc with hc | hc
    · exact (h1 c hc).1
    · rcases List.mem_cons.1 hc with rfl | hc
      · decide
      · rcases List.mem_cons.1 hc with rfl | hc
        · decide
        · exact h2 c hc
  have hl := ln_line (f.1 ++ 58 :: 32 :: f.2) r hn
  rw [e]
  unfold fld1
  rw [hl]
  dsimp only
  rw [cut_colon f.1 (32 :: f.2) (fun c hc => (h1 c hc).2)]
  dsimp only
  rw [if_pos ⟨rfl, rfl⟩, h3, Tx.trim_blk (by decide), h4]
  exact ⟨rfl, rfl⟩
theorem PF_fmt : ∀ l : List Fld, l.all fldOk = true → PF (fmt l) = some l
  | [], _ => rfl
  | f :: r, h => by
    rw [List.all_cons, Bool.and_eq_true] at h
    obtain ⟨h1, h2⟩ := fld1_line (fmt r) h.1
    have e : fmt (f :: r) = line f ++ fmt r := by unfold fmt; rw [List.flatMap_cons]
    rw [e, PF_step (by unfold line; simp) h1, h2, PF_fmt r h.2]
    rfl
theorem pfr_fmt {l : List Fld} (h : fldsOk l = true) : pfr (fmt l) = (l, true) := by
  have h2 := h
  unfold fldsOk at h2
  rw [Bool.and_eq_true] at h2
  exact pfr_yes (PF_fmt l h2.1) h
end Go.Proofs.YtobhdfkhfmpdlaaDoor.Flds
