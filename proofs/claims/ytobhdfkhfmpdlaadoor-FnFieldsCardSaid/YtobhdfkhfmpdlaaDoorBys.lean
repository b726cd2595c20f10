/-
  PLAIN FACTS on slices of bytes that a call makes out of a text, or builds byte by byte, and on reading them back as a text.
-/
import Derived.Test.YtobhdfkhfmpdlaaDoorBase
import Derived.Laws.IdiomStrings
import Derived.Laws.BytesArg
import Derived.OwnWalk
import Derived.Laws.OwnMore
import Derived.Laws.AppendOwn
namespace Go.Proofs.YtobhdfkhfmpdlaaDoor.Bys
open Go Go.RowKit
set_option linter.unusedVariables false
set_option maxRecDepth 1000000

theorem info_byte : (Tryd.prog.info? 5).map (fun i => (i.zero, i.size, i.bytes)) = some (some (.int .u8 0), 1, 1) := by kernel_rfl
def bvl (c : UInt8) : Value := .int .u8 (c.toNat : Int)
def bvs (l : List UInt8) : List Value := l.map bvl
theorem bvs_len (l : List UInt8) : (bvs l).length = l.length := by unfold bvs; simp
theorem bvs_more (l : List UInt8) (c : UInt8) : bvs (l ++ [c]) = bvs l ++ [bvl c] := by unfold bvs; simp
theorem bvl_one (c : UInt8) : ∀ u ∈ [bvl c], u.oneCell' = true := by intro u hu; simp at hu; subst hu; rfl
theorem ret_str {a b : List UInt8} (h : a = b) : Ending.returned (.string ⟨a.toArray⟩) = .returned (.string ⟨b.toArray⟩) := by rw [h]

/-- Block g holds these bytes, from its head on; they can be written. -/
def BAt (w : World) (g : Nat) (l : List UInt8) : Prop := g < w.heap.size ∧ ∀ j, j < l.length → w.cell? ⟨g, j, none⟩ = some (bvl (l.getD j 0)) ∧ w.frozen? ⟨g, j, none⟩ = false
theorem of_string (s : ByteArray) (w : World) : ∃ cap w1, (convert 9 22 (.string s)).run Tryd.prog w = .ok (.slice (some ⟨w.heap.size, 0, none⟩) s.size cap) w1 ∧ BAt w1 w.heap.size s.data.toList ∧ Below w.heap.size w w1 := by
  refine ⟨_, _, run_bytes_of_string w 9 22 5 s Tryd.underlying9 Tryd.underlying22 Tryd.underlying5, ⟨by simp, fun j hj => ?_⟩, (Below.refl _ _).drew.alloc (Nat.le_refl _) _⟩
  have hj' : j < s.data.size := by simpa using hj
  have hc := World.cell?_alloc_mark w.drew (bytesRow s (grownCap w s.size 0 5)) 5 ((bytesRow s (grownCap w s.size 0 5)).size, (bytesRow s (grownCap w s.size 0 5)).size + 1) j
  have hf := World.frozen?_alloc_mark w.drew (bytesRow s (grownCap w s.size 0 5)) 5 (bytesRow s (grownCap w s.size 0 5)).size ((bytesRow s (grownCap w s.size 0 5)).size + 1) j
  have hsz : j < (bytesRow s (grownCap w s.size 0 5)).size := by unfold bytesRow; rw [Array.size_append, Array.size_map]; omega
  refine ⟨?_, ?_⟩
  · refine (hc : _).trans ?_
    rw [bytesRow_at s _ j hj']
    have : s.data.toList.getD j 0 = s.data[j] := by simp [List.getD, Array.getElem?_eq_getElem hj']
    rw [this]; rfl
  · refine (hf : _).trans ?_
    simp; omega
theorem back (w : World) (g cap : Nat) (l : List UInt8) (h : BAt w g l) : (convert 22 9 (.slice (some ⟨g, 0, none⟩) l.length cap)).run Tryd.prog w = .ok (.string ⟨l.toArray⟩) w := by
  refine run_convert_bytes_back (P := Tryd.prog) w 22 9 5 ⟨g, 0, none⟩ cap l Tryd.underlying22 Tryd.underlying5 Tryd.underlying9 (fun j hj => ?_)
  rw [WideShapes.add_plain, Nat.zero_add, (h.2 j hj).1]
  simp [List.getD, hj, bvl]
theorem bat_set {w : World} {g k : Nat} {l : List UInt8} (c : UInt8) (h : BAt w g l) (hk : k < l.length) : BAt (w.setCell ⟨g, k, none⟩ (bvl c)) g (l.set k c) := by
  refine ⟨by simpa [World.setCell] using h.1, fun j hj => ?_⟩
  rw [List.length_set] at hj
  rw [World.frozen?_setCell]
  refine ⟨?_, (h.2 j hj).2⟩
  by_cases e : j = k
  · subst e
    rw [World.cell?_setCell_same' _ _ _ (by rw [(h.2 j hj).1]; rfl)]
    simp [List.getD, hj]
  · rw [World.cell?_setCell_other _ _ _ _ (by intro h'; apply e; injection h' with _ h2; exact h2.symm)]
    rw [(h.2 j hj).1]
    simp [List.getD, hj, List.getElem?_set, show ¬ k = j from fun h' => e h'.symm]
theorem bat_below {w w' : World} {B g : Nat} {l : List UInt8} (h : BAt w g l) (hb : Below B w w') (hg : g < B) : BAt w' g l :=
  ⟨Nat.lt_of_lt_of_le h.1 hb.size, fun j hj => ⟨(hb.cell (p := ⟨g, j, none⟩) hg).trans (h.2 j hj).1, (hb.frozen (p := ⟨g, j, none⟩) hg).trans (h.2 j hj).2⟩⟩
theorem bat_drew {w : World} {g : Nat} {l : List UInt8} (h : BAt w g l) : BAt w.drew g l := h
theorem below_set {B : Nat} {a w : World} {g k : Nat} (u : Value) (h : Below B a w) (hg : B ≤ g) : Below B a (w.setCell ⟨g, k, none⟩ u) := h.setCell hg _

/-! bytes put one behind another -/
abbrev Own (w : World) (B : Nat) (v : Value) (l : List UInt8) : Prop := w.ownsRow B 5 1 v l.length (bvs l)
theorem news_one (w : World) (x : Value) (T : TypeId) : ∀ j u, [x][j]? = some u → (w.alloc (.cells #[x] T)).cell? ((⟨w.heap.size, 0, none⟩ : Addr).add j) = some u := by
  intro j u hj
  match j, hj with
  | 0, hj =>
    simp at hj; subst hj
    show World.cell? _ ⟨w.heap.size, 0 + 0, none⟩ = _
    rw [World.cell?_alloc_new]; simp
theorem push_own {B : Nat} {a w w1 : World} {v v' : Value} {l : List UInt8} {c : UInt8} {o : Obj} (hown : Own w B v l) (hb : Below a.heap.size a w) (hB : a.heap.size ≤ B)
    (h' : w1.ownsRow B 5 1 v' (l.length + 1) (bvs l ++ [bvl c])) (hg : (w.alloc o).grownBy w1 v.ownBlock) :
    Own w1 B v' (l ++ [c]) ∧ Below a.heap.size a w1 := by
  refine ⟨by show w1.ownsRow B 5 1 v' (l ++ [c]).length (bvs (l ++ [c])); rw [List.length_append, bvs_more]; exact h', (hb.alloc hb.size o).grown hg (by have := hb.size; simp; omega) (fun k e => Nat.le_trans hB (hown.lt k e).1)⟩
theorem own_lit_nil (w : World) : Own (w.alloc (.cells #[] 5)) w.heap.size (.slice (some ⟨w.heap.size, 0, none⟩) 0 0) [] := World.ownsRow_lit w #[] 0 (Nat.le_refl _) (by decide) rfl
theorem own_lit_one (w : World) (c : UInt8) : Own (w.alloc (.cells #[bvl c] 5)) w.heap.size (.slice (some ⟨w.heap.size, 0, none⟩) 1 1) [c] := World.ownsRow_lit w #[bvl c] 1 (Nat.le_refl _) (by decide) rfl
/-- A slice of bytes that the call has built, read as a text. -/
theorem own_str {w : World} {B : Nat} {v : Value} {l : List UInt8} (h : Own w B v l) : (convert 22 9 v).run Tryd.prog w = .ok (.string ⟨l.toArray⟩) w := by
  have h' := h
  rcases h.2 with ⟨rfl, h0⟩ | ⟨g, cap, cur, rfl, _⟩
  · have : l = [] := List.eq_nil_of_length_eq_zero (by omega)
    subst this
    exact run_convert_bytes_nil w 22 5 Tryd.underlying22 Tryd.underlying5 0 0 9 Tryd.underlying9
  · refine run_convert_bytes_back (P := Tryd.prog) w 22 9 5 ⟨g, 0, none⟩ cap l Tryd.underlying22 Tryd.underlying5 Tryd.underlying9 (fun j hj => ?_)
    rw [WideShapes.add_plain, Nat.zero_add, h'.cellAt j (by omega)]
    simp [bvs, hj, bvl]
end Go.Proofs.YtobhdfkhfmpdlaaDoor.Bys
