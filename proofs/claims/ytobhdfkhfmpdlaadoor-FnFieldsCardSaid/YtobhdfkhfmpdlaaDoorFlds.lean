/-
  PLAIN FACTS on slices of fields (a name and a value): what a slice holds, how that is kept, and how a slice that the call itself has built is such a one.
-/
import Derived.Test.YtobhdfkhfmpdlaaDoorBase
import Derived.ChangeSlices
import Derived.OwnWalk
import Derived.Laws.OwnMore
import Derived.Laws.AppendOwn
namespace Go.Proofs.YtobhdfkhfmpdlaaDoor.Flds
open Go Go.RowKit
set_option linter.unusedVariables false
set_option maxRecDepth 1000000

theorem info_fld : (Tryd.prog.info? 46).map (fun i => (i.zero, i.size, i.bytes)) = some (some (.agg #[.string ⟨#[]⟩, .string ⟨#[]⟩]), 2, 32) := by kernel_rfl

abbrev Fld : Type := List UInt8 × List UInt8
def sv (x : List UInt8) : Value := .string ⟨x.toArray⟩
def fv (f : Fld) : Value := .agg #[sv f.1, sv f.2]
def fcs (l : List Fld) : List Value := l.flatMap (fun f => [sv f.1, sv f.2])
def nofld : Fld := ([], [])
theorem fcs_len (l : List Fld) : (fcs l).length = l.length * 2 := by
  unfold fcs
  induction l with
  | nil => rfl
  | cons a r ih => rw [List.flatMap_cons, List.length_append, ih]; simp; omega
theorem fcs_more (l : List Fld) (f : Fld) : fcs (l ++ [f]) = fcs l ++ [sv f.1, sv f.2] := by unfold fcs; simp
theorem fcs_at {l : List Fld} {j : Nat} (h : j < l.length) : (fcs l)[j * 2]? = some (sv (l.getD j nofld).1) ∧ (fcs l)[j * 2 + 1]? = some (sv (l.getD j nofld).2) := by
  induction l generalizing j with
  | nil => simp at h
  | cons a r ih =>
    cases j with
    | zero => exact ⟨rfl, rfl⟩
    | succ j =>
      have h' := ih (j := j) (by simpa using h)
      have e1 : (j + 1) * 2 = j * 2 + 1 + 1 := by omega
      rw [e1]
      show (sv a.1 :: sv a.2 :: fcs r)[_]? = _ ∧ (sv a.1 :: sv a.2 :: fcs r)[_]? = _
      simpa using h'
theorem fcs_one (l : List Fld) : ∀ u ∈ fcs l, u.oneCell' = true := by
  intro u hu
  obtain ⟨f, _, hf⟩ := List.mem_flatMap.1 hu
  simp at hf
  rcases hf with rfl | rfl <;> rfl
theorem two_one (f : Fld) : ∀ u ∈ [sv f.1, sv f.2], u.oneCell' = true := by
  intro u hu; simp at hu; rcases hu with rfl | rfl <;> rfl

/-- The cells from (b, off) on are these fields. -/
def At (w : World) (b off : Nat) (l : List Fld) : Prop := ∀ j, j < l.length → w.cell? ⟨b, off + j * 2, none⟩ = some (sv (l.getD j nofld).1) ∧ w.cell? ⟨b, off + j * 2 + 1, none⟩ = some (sv (l.getD j nofld).2)
/-- The slice v reads as the fields l; its cells lie below block B. -/
def Holds (w : World) (B : Nat) (v : Value) (l : List Fld) : Prop := (l = [] ∧ ∃ a cap, v = .slice a 0 cap) ∨ (0 < l.length ∧ ∃ b off cap, v = .slice (some ⟨b, off, none⟩) l.length cap ∧ b < B ∧ l.length ≤ cap ∧ At w b off l)

theorem lt_of_cell {w : World} {b o : Nat} {u : Value} (h : w.cell? ⟨b, o, none⟩ = some u) : b < w.heap.size := by
  rcases Nat.lt_or_ge b w.heap.size with h' | h'
  · exact h'
  · simp [World.cell?, Array.getElem?_eq_none h'] at h
theorem at_lt {w : World} {b off : Nat} {l : List Fld} (h : At w b off l) (h0 : 0 < l.length) : b < w.heap.size := lt_of_cell (h 0 h0).1
theorem at_below {w w' : World} {B b off : Nat} {l : List Fld} (h : At w b off l) (hb : Below B w w') (hlt : b < B) : At w' b off l := fun j hj => by
  rw [hb.cell (p := ⟨b, off + j * 2, none⟩) hlt, hb.cell (p := ⟨b, off + j * 2 + 1, none⟩) hlt]; exact h j hj
theorem holds_more {w : World} {B B' : Nat} {v : Value} {l : List Fld} (h : Holds w B v l) (hB : B ≤ B') : Holds w B' v l := by
  rcases h with h | ⟨h0, b, off, cap, rfl, h2, hc, h1⟩
  · exact Or.inl h
  · exact Or.inr ⟨h0, b, off, cap, rfl, by omega, hc, h1⟩
theorem holds_below {w w' : World} {B : Nat} {v : Value} {l : List Fld} (h : Holds w B v l) (hb : Below B w w') : Holds w' B v l := by
  rcases h with h | ⟨h0, b, off, cap, rfl, hB, hc, h1⟩
  · exact Or.inl h
  · exact Or.inr ⟨h0, b, off, cap, rfl, hB, hc, at_below h1 hb hB⟩
abbrev Own (w : World) (B : Nat) (v : Value) (l : List Fld) : Prop := w.ownsRow B 46 2 v l.length (fcs l)
theorem own_len {w : World} {B : Nat} {v : Value} {l : List Fld} {n : Nat} (h : w.ownsRow B 46 2 v n (fcs l)) : n = l.length := by
  have := h.1; rw [fcs_len] at this; omega
theorem own_cell {w : World} {B g cap : Nat} {l : List Fld} {n : Nat} (h : w.ownsRow B 46 2 (.slice (some ⟨g, 0, none⟩) n cap) n (fcs l)) {j : Nat} (hj : j < n) :
    w.cell? ⟨g, j * 2, none⟩ = some (sv (l.getD j nofld).1) ∧ w.cell? ⟨g, j * 2 + 1, none⟩ = some (sv (l.getD j nofld).2) := by
  have hn := own_len h
  have hf := fcs_at (l := l) (j := j) (by omega)
  have hc := h.cells (g := g) rfl
  have h1 := hc _ _ hf.1
  have h2 := hc _ _ hf.2
  simp only [WideShapes.add_plain, Nat.zero_add] at h1 h2
  exact ⟨h1, h2⟩
theorem own_holds {w : World} {B : Nat} {v : Value} {l : List Fld} (h : Own w B v l) : Holds w w.heap.size v l := by
  have h' := h
  obtain ⟨hl, hc⟩ := h
  rcases hc with ⟨rfl, h0⟩ | ⟨g, cap, cur, rfl, hb, hg, hn, hcap, hs, ht⟩
  · exact Or.inl ⟨List.eq_nil_of_length_eq_zero h0, _, _, rfl⟩
  · by_cases h0 : l = []
    · subst h0; exact Or.inl ⟨rfl, _, _, rfl⟩
    · refine Or.inr ⟨List.length_pos_iff.2 h0, g, 0, cap, rfl, (h'.lt g rfl).2, hn, fun j hj => ?_⟩
      rw [Nat.zero_add]; exact own_cell h' hj
theorem own_below {w w' : World} {B : Nat} {v : Value} {l : List Fld} (h : Own w B v l) (hb : Below w.heap.size w w') : Own w' B v l := by
  obtain ⟨hl, hc⟩ := h
  refine ⟨hl, ?_⟩
  rcases hc with h0 | ⟨g, cap, cur, rfl, h1, h2, h3⟩
  · exact Or.inl h0
  · have hlt : g < w.heap.size := by
      rcases Nat.lt_or_ge g w.heap.size with h' | h'
      · exact h'
      · rw [Array.getElem?_eq_none h'] at h2; cases h2
    exact Or.inr ⟨g, cap, cur, rfl, h1, by rw [hb.block g hlt]; exact h2, h3⟩
theorem own_mono {w : World} {B B' : Nat} {v : Value} {l : List Fld} (h : Own w B v l) (hB : B' ≤ B) : Own w B' v l := by
  obtain ⟨hl, hc⟩ := h
  refine ⟨hl, ?_⟩
  rcases hc with h0 | ⟨g, cap, cur, rfl, h1, h2, h3⟩
  · exact Or.inl h0
  · exact Or.inr ⟨g, cap, cur, rfl, by omega, h2, h3⟩
theorem news_two (w : World) (x y : Value) (T : TypeId) : ∀ j u, [x, y][j]? = some u → (w.alloc (.cells #[x, y] T)).cell? ((⟨w.heap.size, 0, none⟩ : Addr).add j) = some u := by
  intro j u hj
  rw [WideShapes.add_plain, Nat.zero_add, World.cell?_alloc_new]
  simpa using hj
/-- One more field behind a slice that the call has built. -/
theorem push_own {B : Nat} {a w w1 : World} {v v' : Value} {l : List Fld} {f : Fld} {o : Obj} (hown : Own w B v l) (hb : Below a.heap.size a w) (hB : a.heap.size ≤ B)
    (h' : w1.ownsRow B 46 2 v' (l.length + 1) (fcs l ++ [sv f.1, sv f.2])) (hg : (w.alloc o).grownBy w1 v.ownBlock) :
    Own w1 B v' (l ++ [f]) ∧ Below a.heap.size a w1 := by
  refine ⟨by show w1.ownsRow B 46 2 v' (l ++ [f]).length (fcs (l ++ [f])); rw [List.length_append, fcs_more]; exact h', (hb.alloc hb.size o).grown hg (by have := hb.size; simp; omega) (fun k e => Nat.le_trans hB (hown.lt k e).1)⟩
theorem own_lit_nil (w : World) : Own (w.alloc (.cells #[] 46)) w.heap.size (.slice (some ⟨w.heap.size, 0, none⟩) 0 0) [] := World.ownsRow_lit w #[] 0 (Nat.le_refl _) (by decide) rfl
end Go.Proofs.YtobhdfkhfmpdlaaDoor.Flds
