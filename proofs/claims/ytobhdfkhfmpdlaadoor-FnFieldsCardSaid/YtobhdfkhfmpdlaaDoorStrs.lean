/-
  PLAIN FACTS on slices of texts: what a slice holds (as a list of texts), how that is kept, how a slice that the call itself has built is such a one, and how one more text is put behind it.
-/
import Derived.Test.YtobhdfkhfmpdlaaDoorBase
import Derived.ChangeSlices
import Derived.SliceStrings
import Derived.OwnWalk
import Derived.Laws.OwnMore
import Derived.Laws.AppendOwn
namespace Go.Proofs.YtobhdfkhfmpdlaaDoor.Strs
open Go Go.RowKit
set_option linter.unusedVariables false
set_option maxRecDepth 1000000

theorem info_str : (Tryd.prog.info? 9).map (fun i => (i.zero, i.size, i.bytes)) = some (some (.string ⟨#[]⟩), 1, 16) := by kernel_rfl

/-- A text as a value. -/
def sv (x : List UInt8) : Value := .string ⟨x.toArray⟩
def svs (xs : List (List UInt8)) : List Value := xs.map sv
theorem svs_len (xs : List (List UInt8)) : (svs xs).length = xs.length := by unfold svs; simp
theorem svs_at {xs : List (List UInt8)} {j : Nat} (h : j < xs.length) : (svs xs)[j]? = some (sv (xs.getD j [])) := by unfold svs; simp [List.getD, h]
theorem svs_more (xs : List (List UInt8)) (x : List UInt8) : svs (xs ++ [x]) = svs xs ++ [sv x] := by unfold svs; simp
theorem svs_one (xs : List (List UInt8)) : ∀ u ∈ svs xs, u.oneCell' = true := by
  intro u hu; obtain ⟨x, _, rfl⟩ := List.mem_map.1 hu; rfl
theorem sv_one (x : List UInt8) : ∀ u ∈ [sv x], u.oneCell' = true := by intro u hu; simp at hu; subst hu; rfl

/-- The cells from (b, off) on are these texts. -/
def At (w : World) (b off : Nat) (xs : List (List UInt8)) : Prop := ∀ j, j < xs.length → w.cell? ⟨b, off + j, none⟩ = some (sv (xs.getD j []))
/-- The slice v reads as the texts xs; its cells lie below block B. -/
def Holds (w : World) (B : Nat) (v : Value) (xs : List (List UInt8)) : Prop := (xs = [] ∧ ∃ a cap, v = .slice a 0 cap) ∨ (0 < xs.length ∧ ∃ b off cap, v = .slice (some ⟨b, off, none⟩) xs.length cap ∧ b < B ∧ xs.length ≤ cap ∧ At w b off xs)

theorem lt_of_cell {w : World} {b o : Nat} {u : Value} (h : w.cell? ⟨b, o, none⟩ = some u) : b < w.heap.size := by
  rcases Nat.lt_or_ge b w.heap.size with h' | h'
  · exact h'
  · simp [World.cell?, Array.getElem?_eq_none h'] at h
theorem at_lt {w : World} {b off : Nat} {xs : List (List UInt8)} (h : At w b off xs) (h0 : 0 < xs.length) : b < w.heap.size := lt_of_cell (h 0 h0)
theorem at_below {w w' : World} {B b off : Nat} {xs : List (List UInt8)} (h : At w b off xs) (hb : Below B w w') (hlt : b < B) : At w' b off xs := fun j hj => by
  rw [hb.cell (p := ⟨b, off + j, none⟩) hlt]; exact h j hj
theorem holds_lt {w : World} {B : Nat} {v : Value} {xs : List (List UInt8)} (h : Holds w B v xs) : Holds w w.heap.size v xs := by
  rcases h with h | ⟨h0, b, off, cap, rfl, hB, hc, h1⟩
  · exact Or.inl h
  · exact Or.inr ⟨h0, b, off, cap, rfl, at_lt h1 h0, hc, h1⟩
theorem holds_more {w : World} {B B' : Nat} {v : Value} {xs : List (List UInt8)} (h : Holds w B v xs) (hB : B ≤ B') : Holds w B' v xs := by
  rcases h with h | ⟨h0, b, off, cap, rfl, h2, hc, h1⟩
  · exact Or.inl h
  · exact Or.inr ⟨h0, b, off, cap, rfl, by omega, hc, h1⟩
theorem holds_below {w w' : World} {B : Nat} {v : Value} {xs : List (List UInt8)} (h : Holds w B v xs) (hb : Below B w w') : Holds w' B v xs := by
  rcases h with h | ⟨h0, b, off, cap, rfl, hB, hc, h1⟩
  · exact Or.inl h
  · exact Or.inr ⟨h0, b, off, cap, rfl, hB, hc, at_below h1 hb hB⟩
/-- Kept where only one block of others is written. -/
theorem holds_grown {w w' : World} {B : Nat} {v : Value} {xs : List (List UInt8)} {row : Option Nat} (h : Holds w B v xs) (hg : w.grownBy w' row) (hr : ∀ k, row = some k → B ≤ k) : Holds w' B v xs := by
  rcases h with h | ⟨h0, b, off, cap, rfl, hB, hc, h1⟩
  · exact Or.inl h
  · refine Or.inr ⟨h0, b, off, cap, rfl, hB, hc, fun j hj => ?_⟩
    exact hg.cell (h1 j hj) (fun e => by have := hr b e.symm; omega)
abbrev Own (w : World) (B : Nat) (v : Value) (xs : List (List UInt8)) : Prop := w.ownsRow B 9 1 v xs.length (svs xs)
theorem own_cell {w : World} {B g cap : Nat} {xs : List (List UInt8)} {n : Nat} (h : w.ownsRow B 9 1 (.slice (some ⟨g, 0, none⟩) n cap) n (svs xs)) {j : Nat} (hj : j < n) : w.cell? ⟨g, j, none⟩ = some (sv (xs.getD j [])) := by
  have hn : xs.length = n := by have := h.1; rw [svs_len] at this; omega
  rw [h.cellAt j (by omega)]
  exact svs_at (by omega)
/-- A slice that the call has built reads as what it owns. -/
theorem own_holds {w : World} {B : Nat} {v : Value} {xs : List (List UInt8)} (h : Own w B v xs) : Holds w w.heap.size v xs := by
  have h' := h
  obtain ⟨hl, hc⟩ := h
  rcases hc with ⟨rfl, h0⟩ | ⟨g, cap, cur, rfl, hb, hg, hn, hcap, hs, ht⟩
  · have : xs = [] := List.eq_nil_of_length_eq_zero h0
    subst this; exact Or.inl ⟨rfl, _, _, rfl⟩
  · by_cases h0 : xs = []
    · subst h0; exact Or.inl ⟨rfl, _, _, rfl⟩
    · refine Or.inr ⟨List.length_pos_iff.2 h0, g, 0, cap, rfl, ?_, hn, fun j hj => ?_⟩
      · have := h'.lt g rfl; exact this.2
      · rw [Nat.zero_add]; exact own_cell h' hj
theorem news_one (w : World) (x : Value) (T : TypeId) : ∀ j u, [x][j]? = some u → (w.alloc (.cells #[x] T)).cell? ((⟨w.heap.size, 0, none⟩ : Addr).add j) = some u := by
  intro j u hj
  match j, hj with
  | 0, hj =>
    simp at hj; subst hj
    show World.cell? _ ⟨w.heap.size, 0 + 0, none⟩ = _
    rw [World.cell?_alloc_new]; simp
/-- One more text behind a slice that the call has built. -/
theorem push_own {B : Nat} {a w w1 : World} {v v' : Value} {xs : List (List UInt8)} {x : List UInt8} {o : Obj} (hown : Own w B v xs) (hb : Below a.heap.size a w) (hB : a.heap.size ≤ B)
    (h' : w1.ownsRow B 9 1 v' (xs.length + 1) (svs xs ++ [sv x])) (hg : (w.alloc o).grownBy w1 v.ownBlock) :
    Own w1 B v' (xs ++ [x]) ∧ Below a.heap.size a w1 := by
  refine ⟨by show w1.ownsRow B 9 1 v' (xs ++ [x]).length (svs (xs ++ [x])); rw [List.length_append, svs_more]; exact h', (hb.alloc hb.size o).grown hg (by have := hb.size; simp; omega) (fun k e => Nat.le_trans hB (hown.lt k e).1)⟩
theorem own_lit_nil (w : World) : Own (w.alloc (.cells #[] 9)) w.heap.size (.slice (some ⟨w.heap.size, 0, none⟩) 0 0) [] := World.ownsRow_lit w #[] 0 (Nat.le_refl _) (by decide) rfl
end Go.Proofs.YtobhdfkhfmpdlaaDoor.Strs
