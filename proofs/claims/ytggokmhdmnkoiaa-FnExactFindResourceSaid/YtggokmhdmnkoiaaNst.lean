/-
  PLAIN FACTS on slices of structs that hold slices: the rows of cells as they stand, beside what each row means (a relation RD of the element).
-/
import Derived.Test.YtggokmhdmnkoiaaRec
namespace Go.Proofs.Ytggokmhdmnkoiaa.Nst
open Go Go.RowKit
set_option linter.unusedVariables false
set_option maxRecDepth 1000000

/-- A row of n cells. -/
structure Row (n : Nat) where
  l : List Value
  h : l.length = n
def cs {n : Nat} (r : Row n) : List Value := r.l
theorem cs_len {n : Nat} (r : Row n) : (cs r).length = n := r.h
def nov (n : Nat) : Row n := ⟨List.replicate n (.bool false), by simp⟩
section
variable {α : Type} {n : Nat} {RD : World → Nat → List Value → α → Prop} {z : α}
/-- The slice v reads as l: its rows mean l's elements. -/
def Holds (n : Nat) (RD : World → Nat → List Value → α → Prop) (z : α) (w : World) (B : Nat) (v : Value) (l : List α) : Prop := ∃ rows : List (Row n), rows.length = l.length ∧ Rec.Holds n cs (nov n) w B v rows ∧ ∀ j, j < l.length → RD w B (rows.getD j (nov n)).l (l.getD j z)
theorem holds_below {w w' : World} {B : Nat} {v : Value} {l : List α} (hR : ∀ {c a}, RD w B c a → RD w' B c a) (h : Holds n RD z w B v l) (hb : Below B w w') : Holds n RD z w' B v l := by
  obtain ⟨rows, h1, h2, h3⟩ := h
  exact ⟨rows, h1, Rec.holds_below h2 hb, fun j hj => hR (h3 j hj)⟩
theorem holds_more {w : World} {B B' : Nat} {v : Value} {l : List α} (hR : ∀ {c a}, RD w B c a → RD w B' c a) (h : Holds n RD z w B v l) (hB : B ≤ B') : Holds n RD z w B' v l := by
  obtain ⟨rows, h1, h2, h3⟩ := h
  exact ⟨rows, h1, Rec.holds_more h2 hB, fun j hj => hR (h3 j hj)⟩
theorem holds_drew {w : World} {B : Nat} {v : Value} {l : List α} (hR : ∀ {c a}, RD w B c a → RD w.drew B c a) (h : Holds n RD z w B v l) : Holds n RD z w.drew B v l := by
  obtain ⟨rows, h1, h2, h3⟩ := h
  exact ⟨rows, h1, h2, fun j hj => hR (h3 j hj)⟩
theorem holds_cases {w : World} {B : Nat} {v : Value} {l : List α} (h : Holds n RD z w B v l) : (l = [] ∧ ∃ a cap, v = .slice a 0 cap) ∨ (0 < l.length ∧ ∃ b off cap, v = .slice (some ⟨b, off, none⟩) l.length cap ∧ b < B ∧ l.length ≤ cap ∧ ∃ rows : List (Row n), rows.length = l.length ∧ Rec.At n cs (nov n) w b off rows ∧ ∀ j, j < l.length → RD w B (rows.getD j (nov n)).l (l.getD j z)) := by
  obtain ⟨rows, h1, h2, h3⟩ := h
  rcases h2 with ⟨rfl, a, cap, rfl⟩ | ⟨h0, b, off, cap, rfl, hb, hc, hA⟩
  · exact Or.inl ⟨List.eq_nil_of_length_eq_zero h1.symm, a, cap, rfl⟩
  · exact Or.inr ⟨by omega, b, off, cap, by rw [h1], hb, by omega, rows, h1, hA, h3⟩
theorem holds_nil (w : World) (B : Nat) (a : Option Addr) (cap : Nat) : Holds n RD z w B (.slice a 0 cap) [] := ⟨[], rfl, Or.inl ⟨rfl, _, _, rfl⟩, fun j hj => absurd hj (Nat.not_lt_zero _)⟩
theorem at_cell {w : World} {b off : Nat} {rows : List (Row n)} (h : Rec.At n cs (nov n) w b off rows) {j i : Nat} (hj : j < rows.length) {c : List Value} {u : Value} (hc : (rows.getD j (nov n)).l = c) (hu : c[i]? = some u) : w.cell? ⟨b, off + j * n + i, none⟩ = some u :=
  h j hj i u (by show (rows.getD j (nov n)).l[i]? = some u; rw [hc]; exact hu)
theorem own_some {w : World} {B g cap m : Nat} {T : TypeId} {rows : List (Row n)} (hn : 0 < n) (h : w.ownsRow B T n (.slice (some ⟨g, 0, none⟩) m cap) m (Rec.flat cs rows)) {j i : Nat} (hj : j < m) (hi : i < n) : ∃ u, w.cell? ⟨g, j * n + i, none⟩ = some u := by
  have hl : i < (cs (rows.getD j (nov n))).length := by rw [cs_len]; exact hi
  exact ⟨_, Rec.own_cell (z := nov n) cs_len hn h hj (List.getElem?_eq_getElem hl)⟩
theorem get_same {rows : List (Row n)} {k : Nat} (h : k < rows.length) (r : Row n) : (rows.set k r).getD k (nov n) = r := by simp [List.getD, h]
theorem get_ne {rows : List (Row n)} {j k : Nat} (h : j ≠ k) (r : Row n) : (rows.set k r).getD j (nov n) = rows.getD j (nov n) := by simp [List.getD, List.getElem?_set_ne (fun e => h e.symm)]
end
end Go.Proofs.Ytggokmhdmnkoiaa.Nst
