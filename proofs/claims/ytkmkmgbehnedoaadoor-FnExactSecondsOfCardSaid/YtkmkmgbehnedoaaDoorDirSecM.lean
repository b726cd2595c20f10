/-
  PLAIN FACTS on the seconds that a directive has as its value.
-/
import Derived.Test.YtkmkmgbehnedoaaDoorDirFind
import Derived.Test.YtkmkmgbehnedoaaDoorTxMath
import Derived.Test.YtkmkmgbehnedoaaDoorTokList
import Derived.Lib.SlTrimSet
namespace Go.Proofs.YtkmkmgbehnedoaaDoor.Dir
open Go Go.RowKit
set_option linter.unusedVariables false

def dg (c : UInt8) : Bool := decide (48 ≤ c.toNat ∧ c.toNat ≤ 57)
def digs : List UInt8 := [48, 49, 50, 51, 52, 53, 54, 55, 56, 57]
theorem dg_digs (c : UInt8) : digs.contains c = dg c := by
  have h : ∀ n : Fin 256, digs.contains (UInt8.ofNat n.1) = dg (UInt8.ofNat n.1) := by decide +kernel
  have e : UInt8.ofNat c.toNat = c := by simp
  have := h ⟨c.toNat, c.toNat_lt⟩
  rw [e] at this; exact this
def sst (n : Int) (c : UInt8) : Int := min (10 * n + ((c.toNat : Int) - 48)) 2147483648
def srun (l : List UInt8) : Int := l.foldl sst 0
def secs (l : List UInt8) : Int := if l.all dg then srun l else 0
theorem srun_nil : srun [] = 0 := rfl
theorem srun_more (l : List UInt8) (c : UInt8) : srun (l ++ [c]) = sst (srun l) c := by unfold srun; rw [List.foldl_append]; rfl
theorem sst_bd {n : Int} {c : UInt8} (hc : dg c = true) (h0 : 0 ≤ n) : 0 ≤ sst n c ∧ sst n c ≤ 2147483648 := by
  have : 48 ≤ c.toNat ∧ c.toNat ≤ 57 := by simpa [dg] using hc
  unfold sst; omega
theorem srun_bd (l : List UInt8) (h : l.all dg = true) : 0 ≤ srun l ∧ srun l ≤ 2147483648 := by
  rcases List.eq_nil_or_concat l with rfl | ⟨t, c, rfl⟩
  · decide
  · have ht : ∀ k, (t.take k).all dg = true → 0 ≤ srun (t.take k) := by
      intro k
      induction k with
      | zero => intro _; simp [srun]
      | succ k ih =>
        intro hk
        rcases Nat.lt_or_ge k t.length with hlt | hge
        · rw [List.take_succ_eq_append_getElem hlt] at hk ⊢
          rw [List.all_append] at hk
          simp only [Bool.and_eq_true] at hk
          rw [srun_more]
          exact (sst_bd (by simpa using hk.2) (ih hk.1)).1
        · rw [List.take_of_length_le (by omega)] at hk ⊢
          have := ih (by rw [List.take_of_length_le hge]; exact hk)
          rw [List.take_of_length_le hge] at this; exact this
    rw [List.concat_eq_append] at h ⊢
    rw [List.all_append] at h
    simp only [Bool.and_eq_true] at h
    rw [srun_more]
    refine sst_bd (by simpa using h.2) ?_
    have := ht t.length (by rw [List.take_length]; exact h.1)
    rw [List.take_length] at this; exact this
theorem secs_bd (l : List UInt8) : 0 ≤ secs l ∧ secs l ≤ 2147483648 := by
  unfold secs; split
  · rename_i h; exact srun_bd l h
  · decide
theorem secs_all {l : List UInt8} (h : l.all dg = true) : secs l = srun l := by unfold secs; rw [if_pos h]
theorem secs_no {l : List UInt8} (h : l.all dg = false) : secs l = 0 := by unfold secs; simp [h]
/-- strings.Trim at the ten digits leaves nothing just of a text of digits. -/
theorem dw_nil (p : UInt8 → Bool) (l : List UInt8) : l.dropWhile p = [] ↔ l.all p = true := by
  induction l with
  | nil => simp
  | cons c r ih =>
    rcases hc : p c with _ | _
    · rw [List.dropWhile_cons_of_neg (by simp [hc])]; simp [hc]
    · rw [List.dropWhile_cons_of_pos hc]; simp [hc, ih]
theorem trim_digs (l : List UInt8) : Lib.trimS l digs = [] ↔ l.all dg = true := by
  unfold Lib.trimS Lib.trimLeftS Lib.trimRightS
  rw [show (fun x : UInt8 => digs.contains x) = dg from funext dg_digs]
  rw [dw_nil]
  constructor
  · intro h
    by_cases h2 : l.reverse.dropWhile dg = []
    · have := (dw_nil dg l.reverse).1 h2
      rw [List.all_reverse] at this; exact this
    · exfalso
      obtain ⟨c, t, hct⟩ := List.exists_cons_of_ne_nil h2
      have h3 : dg c = false := by
        have := List.head?_dropWhile_not dg l.reverse
        rw [hct] at this
        simpa using this
      rw [hct, List.reverse_cons, List.all_append] at h
      simp [h3] at h
  · intro h
    have h2 : l.reverse.dropWhile dg = [] := (dw_nil dg l.reverse).2 (by rw [List.all_reverse]; exact h)
    rw [h2]; rfl
theorem take_dg {s : ByteArray} {k : Nat} (h : k < s.size) (ha : (s.data.toList.take k).all dg = true) (hc : dg s[k] = true) : (s.data.toList.take (k + 1)).all dg = true := by
  rw [Tx.take_snoc s k h, List.all_append, ha]; simp [hc]
theorem not_dg {s : ByteArray} {k : Nat} (h : k < s.size) (hc : dg s[k] = false) : s.data.toList.all dg = false := by
  rw [Bool.eq_false_iff]; intro ha
  have hm : s[k] ∈ s.data.toList := by
    have : s[k] = s.data.toList[k]'(by rw [Array.length_toList]; exact h) := rfl
    rw [this]; exact List.getElem_mem _
  rw [List.all_eq_true.1 ha _ hm] at hc; cases hc
theorem at1_cases (n : List UInt8) (l : List T) : at1 n l = -1 ∨ ∃ k : Nat, k < l.length ∧ at1 n l = (k : Int) := by
  unfold at1; split
  · exact Or.inr ⟨_, by assumption, rfl⟩
  · exact Or.inl rfl
/-- What SecondsOf answers. -/
def sof (n : List UInt8) (l : List T) : Int × Bool := if at1 n l < 0 then (0, false) else (secs (l.getD (at1 n l).toNat nov).2.1, true)
theorem sof_no {n : List UInt8} {l : List T} (h : at1 n l = -1) : sof n l = (0, false) := by unfold sof; rw [h]; rfl
theorem sof_at {n : List UInt8} {l : List T} {k : Nat} (h : at1 n l = (k : Int)) : sof n l = (secs (l.getD k nov).2.1, true) := by unfold sof; rw [h, if_neg (by omega)]; rfl
def SecEnd (n : List UInt8) (l : List T) (w : World) (e : Ending) (w' : World) : Prop := e = .returned (.tuple #[.int .i64 (sof n l).1, .bool (sof n l).2]) ∧ Below w.heap.size w w'
end Go.Proofs.YtkmkmgbehnedoaaDoor.Dir
