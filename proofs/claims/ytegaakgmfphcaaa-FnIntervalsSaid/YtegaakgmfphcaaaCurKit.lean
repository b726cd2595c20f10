/-
  PLAIN FACTS on a cursor and the bytes that it reads, where the world grows.
-/
import Derived.Test.YtegaakgmfphcaaaCurBelow
namespace Go.Proofs.Ytegaakgmfphcaaa.Cur
open Go Go.RowKit
set_option linter.unusedVariables false
set_option maxRecDepth 1000000

theorem gb_alloc {a w : World} {row : Option Nat} (h : a.grownBy w row) (o : Obj) : a.grownBy (w.alloc o) row := gb_trans h (World.grownBy_alloc _ _ _)
theorem cur_kept {w w' : World} {c d : Nat} {bv : Value} (h : CurAt w c bv) (hg : w.grownBy w' (some d)) (hd : c ≠ d) : CurAt w' c bv := by
  obtain ⟨i, k, h0, hb⟩ := h
  exact ⟨i, k, h0, by rw [hg.block c (lt_of_block hb) (by simpa using hd)]; exact hb⟩
theorem cur_alloc {w : World} {c : Nat} {bv : Value} (h : CurAt w c bv) (o : Obj) : CurAt (w.alloc o) c bv := by
  obtain ⟨i, k, h0, hb⟩ := h
  exact ⟨i, k, h0, by rw [Below.heap_alloc _ _ _ (lt_of_block hb)]; exact hb⟩
theorem cur_lt {w : World} {c : Nat} {bv : Value} (h : CurAt w c bv) : c < w.heap.size := by
  obtain ⟨i, k, h0, hb⟩ := h
  exact lt_of_block hb
theorem bytes_alloc {w : World} {B : Nat} {bv : Value} (h : Bytes w B bv) (o : Obj) : Bytes (w.alloc o) B bv := by
  rcases h with h | ⟨b, off, len, cap, f, h1, h2, h3, h4, h5⟩
  · exact Or.inl h
  · refine Or.inr ⟨b, off, len, cap, f, h1, h2, by simp; omega, h4, fun j hj => ⟨(h5 j hj).1, (h5 j hj).2.1, ?_⟩⟩
    rw [World.cell?_of_block (w := w) (Below.heap_alloc _ _ _ h3)]
    exact (h5 j hj).2.2
end Go.Proofs.Ytegaakgmfphcaaa.Cur
