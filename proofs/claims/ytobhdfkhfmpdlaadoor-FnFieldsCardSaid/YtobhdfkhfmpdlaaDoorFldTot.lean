/-
  PLAIN FACTS on the size of a list of fields, and on a list that is filled from the left.
-/
import Derived.Test.YtobhdfkhfmpdlaaDoorFlds
namespace Go.Proofs.YtobhdfkhfmpdlaaDoor.Flds
open Go Go.RowKit
set_option linter.unusedVariables false
set_option maxRecDepth 1000000

def wt (f : Fld) : Nat := f.1.length + f.2.length
def total (l : List Fld) : Nat := (l.map wt).sum + l.length
theorem total_nil : total [] = 0 := rfl
def pre (l : List Fld) (k : Nat) : Nat := ((l.take k).map wt).sum
theorem pre_zero (l : List Fld) : pre l 0 = 0 := by unfold pre; simp
theorem pre_more {l : List Fld} {k : Nat} (h : k < l.length) : pre l (k + 1) = pre l k + ((l.getD k nofld).1.length + (l.getD k nofld).2.length) := by
  unfold pre; rw [List.take_succ_eq_append_getElem h, List.map_append, List.sum_append]; simp [List.getD, h, wt]
theorem pre_all {l : List Fld} {k : Nat} (h : k = l.length) : total l = pre l k + l.length := by unfold pre total; subst h; simp

def part (l : List Fld) (k : Nat) : List Fld := l.take k ++ List.replicate (l.length - k) nofld
theorem part_len (l : List Fld) {k : Nat} (h : k ≤ l.length) : (part l k).length = l.length := by
  unfold part; rw [List.length_append, List.length_take, List.length_replicate]; omega
theorem part_zero (l : List Fld) : part l 0 = List.replicate l.length nofld := by unfold part; simp
theorem part_all (l : List Fld) : part l l.length = l := by unfold part; simp
theorem part_more {l : List Fld} {k : Nat} (h : k < l.length) : (part l k).set k (l.getD k nofld) = part l (k + 1) := by
  unfold part
  rw [List.set_append_right _ _ (by rw [List.length_take]; omega), List.length_take, show k - min k l.length = 0 by omega,
    show l.length - k = (l.length - (k + 1)) + 1 by omega, List.replicate_succ, List.set_cons_zero, List.take_succ_eq_append_getElem h, List.append_assoc]
  simp [List.getD, h]
/-- Two cells of a field are set one behind the other. -/
theorem fcs_set (l : List Fld) (k : Nat) (f : Fld) : ((fcs l).set (k * 2) (sv f.1)).set (k * 2 + 1) (sv f.2) = fcs (l.set k f) := by
  induction l generalizing k with
  | nil => simp [fcs]
  | cons a r ih =>
    have e0 : ∀ (x : Fld) (q : List Fld), fcs (x :: q) = sv x.1 :: sv x.2 :: fcs q := fun x q => rfl
    cases k with
    | zero => rfl
    | succ k =>
      rw [show (k + 1) * 2 = k * 2 + 1 + 1 by omega, List.set_cons_succ, e0, e0, List.set_cons_succ, List.set_cons_succ, List.set_cons_succ, List.set_cons_succ, ih]
theorem fcs_rep (n : Nat) : fcs (List.replicate n nofld) = List.replicate (n * 2) (sv []) := by
  induction n with
  | zero => rfl
  | succ n ih =>
    rw [List.replicate_succ, show (n + 1) * 2 = n * 2 + 1 + 1 by omega, List.replicate_succ, List.replicate_succ, ← ih]
    rfl
theorem made_part (l : List Fld) : (madeCells (Value.agg #[.string ⟨#[]⟩, .string ⟨#[]⟩]).cells (l.length * 2)).toList = fcs (part l 0) := by
  rw [part_zero, fcs_rep, show (Value.agg #[.string ⟨#[]⟩, .string ⟨#[]⟩]).cells = #[sv [], sv []] from rfl]
  have e : ∀ i : Nat, (#[sv [], sv []] : Array Value)[i % 2]! = sv [] := by
    intro i; rcases Nat.mod_two_eq_zero_or_one i with h | h <;> rw [h] <;> rfl
  unfold madeCells
  rw [Array.toList_map, List.eq_replicate_iff]
  refine ⟨by simp, fun b hb => ?_⟩
  obtain ⟨i, _, rfl⟩ := List.mem_map.1 hb
  exact e i
/-- What the call has built is kept by what only adds. -/
theorem row_below {w w' : World} {B n : Nat} {T : TypeId} {sz : Nat} {v : Value} {xs : List Value} (h : w.ownsRow B T sz v n xs) (hb : Below w.heap.size w w') : w'.ownsRow B T sz v n xs := by
  obtain ⟨hl, hc⟩ := h
  refine ⟨hl, ?_⟩
  rcases hc with h0 | ⟨g, cap, cur, rfl, h1, h2, h3⟩
  · exact Or.inl h0
  · have hlt : g < w.heap.size := by
      rcases Nat.lt_or_ge g w.heap.size with h' | h'
      · exact h'
      · rw [Array.getElem?_eq_none h'] at h2; cases h2
    exact Or.inr ⟨g, cap, cur, rfl, h1, by rw [hb.block g hlt]; exact h2, h3⟩
theorem row_grown {w w' : World} {B n : Nat} {T : TypeId} {sz : Nat} {v : Value} {xs : List Value} {row : Option Nat} (h : w.ownsRow B T sz v n xs) (hg : w.grownBy w' row) (hr : ∀ g, v.ownBlock = some g → some g ≠ row) : w'.ownsRow B T sz v n xs := by
  obtain ⟨hl, hc⟩ := h
  refine ⟨hl, ?_⟩
  rcases hc with h0 | ⟨g, cap, cur, rfl, h1, h2, h3⟩
  · exact Or.inl h0
  · have hlt : g < w.heap.size := by
      rcases Nat.lt_or_ge g w.heap.size with h' | h'
      · exact h'
      · rw [Array.getElem?_eq_none h'] at h2; cases h2
    exact Or.inr ⟨g, cap, cur, rfl, h1, by rw [hg.block g hlt (hr g rfl)]; exact h2, h3⟩
theorem holds_grown {w w' : World} {B : Nat} {v : Value} {l : List Fld} {row : Option Nat} (h : Holds w B v l) (hg : w.grownBy w' row) (hr : ∀ k, row = some k → B ≤ k) : Holds w' B v l := by
  rcases h with h | ⟨h0, b, off, cap, rfl, hB, hc, h1⟩
  · exact Or.inl h
  · exact Or.inr ⟨h0, b, off, cap, rfl, hB, hc, fun j hj => ⟨hg.cell (h1 j hj).1 (fun e => by have := hr b e.symm; omega), hg.cell (h1 j hj).2 (fun e => by have := hr b e.symm; omega)⟩⟩
end Go.Proofs.YtobhdfkhfmpdlaaDoor.Flds
