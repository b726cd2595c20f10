/-
  CONTRACTS AND PLAIN FACTS, several texts in one; each says in its own words what it proves.
-/
import Derived.Test.YtfkejnbkglaokaaGreatDoorPartA
import Derived.ChangeSlices
import Derived.OwnWalk
import Derived.Laws.OwnMore
import Derived.Laws.AppendOwn
import Derived.Test.YtfkejnbkglaokaaGreatDoorPartB
set_option linter.unusedSimpArgs false
set_option linter.unusedVariables false

/-
  PLAIN FACTS on slices of fields (a name and a value): what a slice holds, how that is kept, and how a slice that the call itself has built is such a one.
-/
namespace Go.Proofs.YtfkejnbkglaokaaGreatDoor.Flds
open Go Go.RowKit
set_option linter.unusedVariables false
set_option maxRecDepth 1000000

theorem info_fld : (Tryz.prog.info? 48).map (fun i => (i.zero, i.size, i.bytes)) = some (some (.agg #[.string ⟨#[]⟩, .string ⟨#[]⟩]), 2, 32) := by kernel_rfl

abbrev Fld : Type := List UInt8 × List UInt8
def sv (x : List UInt8) : Value := .string ⟨x.toArray⟩
def fv (f : Fld) : Value := .agg #[sv f.1, sv f.2]
def fcs (l : List Fld) : List Value := l.flatMap (fun f => [sv f.1, sv f.2])
def nofld : Fld := ([], [])
theorem fcs_len (l : List Fld) : (fcs l).length = l.length * 2 := by
  unfold fcs
  induction l with
  | nil => rfl
  | cons a r ih => rw [List.flatMap_cons, List.length_append, ih]; simp; omega
theorem fcs_more (l : List Fld) (f : Fld) : fcs (l ++ [f]) = fcs l ++ [sv f.1, sv f.2] := by unfold fcs; simp
theorem fcs_at {l : List Fld} {j : Nat} (h : j < l.length) : (fcs l)[j * 2]? = some (sv (l.getD j nofld).1) ∧ (fcs l)[j * 2 + 1]? = some (sv (l.getD j nofld).2) := by
  induction l generalizing j with
  | nil => simp at h
  | cons a r ih =>
    cases j with
    | zero => exact ⟨rfl, rfl⟩
    | succ j =>
      have h' := ih (j := j) (by simpa using h)
      have e1 : (j + 1) * 2 = j * 2 + 1 + 1 := by omega
      rw [e1]
      show (sv a.1 :: sv a.2 :: fcs r)[_]? = _ ∧ (sv a.1 :: sv a.2 :: fcs r)[_]? = _
      simpa using h'
theorem fcs_one (l : List Fld) : ∀ u ∈ fcs l, u.oneCell' = true := by
  intro u hu
  obtain ⟨f, _, hf⟩ := List.mem_flatMap.1 hu
  simp at hf
  rcases hf with rfl | rfl <;> rfl
theorem two_one (f : Fld) : ∀ u ∈ [sv f.1, sv f.2], u.oneCell' = true := by
  intro u hu; simp at hu; rcases hu with rfl | rfl <;> rfl

/-- The cells from (b, off) on are these fields. -/
def At (w : World) (b off : Nat) (l : List Fld) : Prop := ∀ j, j < l.length → w.cell? ⟨b, off + j * 2, none⟩ = some (sv (l.getD j nofld).1) ∧ w.cell? ⟨b, off + j * 2 + 1, none⟩ = some (sv (l.getD j nofld).2)
/-- The slice v reads as the fields l; its cells lie below block B. -/
def Holds (w : World) (B : Nat) (v : Value) (l : List Fld) : Prop := (l = [] ∧ ∃ a cap, v = .slice a 0 cap) ∨ (0 < l.length ∧ ∃ b off cap, v = .slice (some ⟨b, off, none⟩) l.length cap ∧ b < B ∧ l.length ≤ cap ∧ At w b off l)

theorem lt_of_cell {w : World} {b o : Nat} {u : Value} (h : w.cell? ⟨b, o, none⟩ = some u) : b < w.heap.size := by
  rcases Nat.lt_or_ge b w.heap.size with h' | h'
  · exact h'
  · simp [World.cell?, Array.getElem?_eq_none h'] at h
theorem at_lt {w : World} {b off : Nat} {l : List Fld} (h : At w b off l) (h0 : 0 < l.length) : b < w.heap.size := lt_of_cell (h 0 h0).1
theorem at_below {w w' : World} {B b off : Nat} {l : List Fld} (h : At w b off l) (hb : Below B w w') (hlt : b < B) : At w' b off l := fun j hj => by
  rw [hb.cell (p := ⟨b, off + j * 2, none⟩) hlt, hb.cell (p := ⟨b, off + j * 2 + 1, none⟩) hlt]; exact h j hj
theorem holds_more {w : World} {B B' : Nat} {v : Value} {l : List Fld} (h : Holds w B v l) (hB : B ≤ B') : Holds w B' v l := by
  rcases h with h | ⟨h0, b, off, cap, rfl, h2, hc, h1⟩
  · exact Or.inl h
  · exact Or.inr ⟨h0, b, off, cap, rfl, by omega, hc, h1⟩
theorem holds_below {w w' : World} {B : Nat} {v : Value} {l : List Fld} (h : Holds w B v l) (hb : Below B w w') : Holds w' B v l := by
  rcases h with h | ⟨h0, b, off, cap, rfl, hB, hc, h1⟩
  · exact Or.inl h
  · exact Or.inr ⟨h0, b, off, cap, rfl, hB, hc, at_below h1 hb hB⟩
abbrev Own (w : World) (B : Nat) (v : Value) (l : List Fld) : Prop := w.ownsRow B 48 2 v l.length (fcs l)
theorem own_len {w : World} {B : Nat} {v : Value} {l : List Fld} {n : Nat} (h : w.ownsRow B 48 2 v n (fcs l)) : n = l.length := by
  have := h.1; rw [fcs_len] at this; omega
theorem own_cell {w : World} {B g cap : Nat} {l : List Fld} {n : Nat} (h : w.ownsRow B 48 2 (.slice (some ⟨g, 0, none⟩) n cap) n (fcs l)) {j : Nat} (hj : j < n) :
    w.cell? ⟨g, j * 2, none⟩ = some (sv (l.getD j nofld).1) ∧ w.cell? ⟨g, j * 2 + 1, none⟩ = some (sv (l.getD j nofld).2) := by
  have hn := own_len h
  have hf := fcs_at (l := l) (j := j) (by omega)
  have hc := h.cells (g := g) rfl
  have h1 := hc _ _ hf.1
  have h2 := hc _ _ hf.2
  simp only [WideShapes.add_plain, Nat.zero_add] at h1 h2
  exact ⟨h1, h2⟩
theorem own_holds {w : World} {B : Nat} {v : Value} {l : List Fld} (h : Own w B v l) : Holds w w.heap.size v l := by
  have h' := h
  obtain ⟨hl, hc⟩ := h
  rcases hc with ⟨rfl, h0⟩ | ⟨g, cap, cur, rfl, hb, hg, hn, hcap, hs, ht⟩
  · exact Or.inl ⟨List.eq_nil_of_length_eq_zero h0, _, _, rfl⟩
  · by_cases h0 : l = []
    · subst h0; exact Or.inl ⟨rfl, _, _, rfl⟩
    · refine Or.inr ⟨List.length_pos_iff.2 h0, g, 0, cap, rfl, (h'.lt g rfl).2, hn, fun j hj => ?_⟩
      rw [Nat.zero_add]; exact own_cell h' hj
theorem own_below {w w' : World} {B : Nat} {v : Value} {l : List Fld} (h : Own w B v l) (hb : Below w.heap.size w w') : Own w' B v l := by
  obtain ⟨hl, hc⟩ := h
  refine ⟨hl, ?_⟩
  rcases hc with h0 | ⟨g, cap, cur, rfl, h1, h2, h3⟩
  · exact Or.inl h0
  · have hlt : g < w.heap.size := by
      rcases Nat.lt_or_ge g w.heap.size with h' | h'
      · exact h'
      · rw [Array.getElem?_eq_none h'] at h2; cases h2
    exact Or.inr ⟨g, cap, cur, rfl, h1, by rw [hb.block g hlt]; exact h2, h3⟩
theorem own_mono {w : World} {B B' : Nat} {v : Value} {l : List Fld} (h : Own w B v l) (hB : B' ≤ B) : Own w B' v l := by
  obtain ⟨hl, hc⟩ := h
  refine ⟨hl, ?_⟩
  rcases hc with h0 | ⟨g, cap, cur, rfl, h1, h2, h3⟩
  · exact Or.inl h0
  · exact Or.inr ⟨g, cap, cur, rfl, by omega, h2, h3⟩
theorem news_two (w : World) (x y : Value) (T : TypeId) : ∀ j u, [x, y][j]? = some u → (w.alloc (.cells #[x, y] T)).cell? ((⟨w.heap.size, 0, none⟩ : Addr).add j) = some u := by
  intro j u hj
  rw [WideShapes.add_plain, Nat.zero_add, World.cell?_alloc_new]
  simpa using hj
/-- One more field behind a slice that the call has built. -/
theorem push_own {B : Nat} {a w w1 : World} {v v' : Value} {l : List Fld} {f : Fld} {o : Obj} (hown : Own w B v l) (hb : Below a.heap.size a w) (hB : a.heap.size ≤ B)
    (h' : w1.ownsRow B 48 2 v' (l.length + 1) (fcs l ++ [sv f.1, sv f.2])) (hg : (w.alloc o).grownBy w1 v.ownBlock) :
    Own w1 B v' (l ++ [f]) ∧ Below a.heap.size a w1 := by
  refine ⟨by show w1.ownsRow B 48 2 v' (l ++ [f]).length (fcs (l ++ [f])); rw [List.length_append, fcs_more]; exact h', (hb.alloc hb.size o).grown hg (by have := hb.size; simp; omega) (fun k e => Nat.le_trans hB (hown.lt k e).1)⟩
theorem own_lit_nil (w : World) : Own (w.alloc (.cells #[] 48)) w.heap.size (.slice (some ⟨w.heap.size, 0, none⟩) 0 0) [] := World.ownsRow_lit w #[] 0 (Nat.le_refl _) (by decide) rfl
end Go.Proofs.YtfkejnbkglaokaaGreatDoor.Flds

/-
  PLAIN FACTS on the size of a list of fields, and on a list that is filled from the left.
-/
namespace Go.Proofs.YtfkejnbkglaokaaGreatDoor.Flds
open Go Go.RowKit
set_option linter.unusedVariables false
set_option maxRecDepth 1000000

def wt (f : Fld) : Nat := f.1.length + f.2.length
def total (l : List Fld) : Nat := (l.map wt).sum + l.length
theorem total_nil : total [] = 0 := rfl
def pre (l : List Fld) (k : Nat) : Nat := ((l.take k).map wt).sum
theorem pre_zero (l : List Fld) : pre l 0 = 0 := by unfold pre; simp
theorem pre_more {l : List Fld} {k : Nat} (h : k < l.length) : pre l (k + 1) = pre l k + ((l.getD k nofld).1.length + (l.getD k nofld).2.length) := by
  unfold pre; rw [List.take_succ_eq_append_getElem h, List.map_append, List.sum_append]; simp [List.getD, h, wt]
theorem pre_all {l : List Fld} {k : Nat} (h : k = l.length) : total l = pre l k + l.length := by unfold pre total; subst h; simp

def part (l : List Fld) (k : Nat) : List Fld := l.take k ++ List.replicate (l.length - k) nofld
theorem part_len (l : List Fld) {k : Nat} (h : k ≤ l.length) : (part l k).length = l.length := by
  unfold part; rw [List.length_append, List.length_take, List.length_replicate]; omega
theorem part_zero (l : List Fld) : part l 0 = List.replicate l.length nofld := by unfold part; simp
theorem part_all (l : List Fld) : part l l.length = l := by unfold part; simp
theorem part_more {l : List Fld} {k : Nat} (h : k < l.length) : (part l k).set k (l.getD k nofld) = part l (k + 1) := by
  unfold part
  rw [List.set_append_right _ _ (by rw [List.length_take]; omega), List.length_take, show k - min k l.length = 0 by omega,
    show l.length - k = (l.length - (k + 1)) + 1 by omega, List.replicate_succ, List.set_cons_zero, List.take_succ_eq_append_getElem h, List.append_assoc]
  simp [List.getD, h]
/-- Two cells of a field are set one behind the other. -/
theorem fcs_set (l : List Fld) (k : Nat) (f : Fld) : ((fcs l).set (k * 2) (sv f.1)).set (k * 2 + 1) (sv f.2) = fcs (l.set k f) := by
  induction l generalizing k with
  | nil => simp [fcs]
  | cons a r ih =>
    have e0 : ∀ (x : Fld) (q : List Fld), fcs (x :: q) = sv x.1 :: sv x.2 :: fcs q := fun x q => rfl
    cases k with
    | zero => rfl
    | succ k =>
      rw [show (k + 1) * 2 = k * 2 + 1 + 1 by omega, List.set_cons_succ, e0, e0, List.set_cons_succ, List.set_cons_succ, List.set_cons_succ, List.set_cons_succ, ih]
theorem fcs_rep (n : Nat) : fcs (List.replicate n nofld) = List.replicate (n * 2) (sv []) := by
  induction n with
  | zero => rfl
  | succ n ih =>
    rw [List.replicate_succ, show (n + 1) * 2 = n * 2 + 1 + 1 by omega, List.replicate_succ, List.replicate_succ, ← ih]
    rfl
theorem made_part (l : List Fld) : (madeCells (Value.agg #[.string ⟨#[]⟩, .string ⟨#[]⟩]).cells (l.length * 2)).toList = fcs (part l 0) := by
  rw [part_zero, fcs_rep, show (Value.agg #[.string ⟨#[]⟩, .string ⟨#[]⟩]).cells = #[sv [], sv []] from rfl]
  have e : ∀ i : Nat, (#[sv [], sv []] : Array Value)[i % 2]! = sv [] := by
    intro i; rcases Nat.mod_two_eq_zero_or_one i with h | h <;> rw [h] <;> rfl
  unfold madeCells
  rw [Array.toList_map, List.eq_replicate_iff]
  refine ⟨by simp, fun b hb => ?_⟩
  obtain ⟨i, _, rfl⟩ := List.mem_map.1 hb
  exact e i
/-- What the call has built is kept by what only adds. -/
theorem row_below {w w' : World} {B n : Nat} {T : TypeId} {sz : Nat} {v : Value} {xs : List Value} (h : w.ownsRow B T sz v n xs) (hb : Below w.heap.size w w') : w'.ownsRow B T sz v n xs := by
  obtain ⟨hl, hc⟩ := h
  refine ⟨hl, ?_⟩
  rcases hc with h0 | ⟨g, cap, cur, rfl, h1, h2, h3⟩
  · exact Or.inl h0
  · have hlt : g < w.heap.size := by
      rcases Nat.lt_or_ge g w.heap.size with h' | h'
      · exact h'
      · rw [Array.getElem?_eq_none h'] at h2; cases h2
    exact Or.inr ⟨g, cap, cur, rfl, h1, by rw [hb.block g hlt]; exact h2, h3⟩
theorem row_grown {w w' : World} {B n : Nat} {T : TypeId} {sz : Nat} {v : Value} {xs : List Value} {row : Option Nat} (h : w.ownsRow B T sz v n xs) (hg : w.grownBy w' row) (hr : ∀ g, v.ownBlock = some g → some g ≠ row) : w'.ownsRow B T sz v n xs := by
  obtain ⟨hl, hc⟩ := h
  refine ⟨hl, ?_⟩
  rcases hc with h0 | ⟨g, cap, cur, rfl, h1, h2, h3⟩
  · exact Or.inl h0
  · have hlt : g < w.heap.size := by
      rcases Nat.lt_or_ge g w.heap.size with h' | h'
      · exact h'
      · rw [Array.getElem?_eq_none h'] at h2; cases h2
    exact Or.inr ⟨g, cap, cur, rfl, h1, by rw [hg.block g hlt (hr g rfl)]; exact h2, h3⟩
theorem holds_grown {w w' : World} {B : Nat} {v : Value} {l : List Fld} {row : Option Nat} (h : Holds w B v l) (hg : w.grownBy w' row) (hr : ∀ k, row = some k → B ≤ k) : Holds w' B v l := by
  rcases h with h | ⟨h0, b, off, cap, rfl, hB, hc, h1⟩
  · exact Or.inl h
  · exact Or.inr ⟨h0, b, off, cap, rfl, hB, hc, fun j hj => ⟨hg.cell (h1 j hj).1 (fun e => by have := hr b e.symm; omega), hg.cell (h1 j hj).2 (fun e => by have := hr b e.symm; omega)⟩⟩
end Go.Proofs.YtfkejnbkglaokaaGreatDoor.Flds

/-
  CONTRACTS of the draws of chapter 5 (l5Draw, l5Any, DrawSetField, DrawMergeFields, DrawFormatFields): over any slice of bytes they answer few short fields in memory of their own; nothing that was there before is changed.
-/
namespace Go.Proofs.YtfkejnbkglaokaaGreatDoor.Cur
open Go Go.RowKit
set_option linter.unusedVariables false
set_option maxRecDepth 1000000

def fnames : List (List UInt8) := [[97, 99, 99, 101, 112, 116, 45, 108, 97, 110, 103, 117, 97, 103, 101], [97], [98], [99, 97, 99, 104, 101, 45, 99, 111, 110, 116, 114, 111, 108], [120, 45, 107], [97]]
theorem fnames_len (x : List UInt8) (h : x ∈ fnames) : x.length ≤ 15 := by
  have hall : fnames.all (fun x => decide (x.length ≤ 15)) = true := by decide
  have := List.all_eq_true.1 hall x h
  simpa using this
def fvalues : List (List UInt8) := [[], [100, 101, 44, 32, 101, 110], [110, 111, 45, 99, 97, 99, 104, 101], [49], [120, 32, 32, 121], [109, 97, 120, 45, 97, 103, 101, 61, 53], [34, 113, 34]]
theorem fvalues_len (x : List UInt8) (h : x ∈ fvalues) : x.length ≤ 9 := by
  have hall : fvalues.all (fun x => decide (x.length ≤ 9)) = true := by decide
  have := List.all_eq_true.1 hall x h
  simpa using this
def fodds : List (List UInt8) := [[65], [97, 32, 98], [], [98]]
theorem fodds_len (x : List UInt8) (h : x ∈ fodds) : x.length ≤ 15 := by
  have hall : fodds.all (fun x => decide (x.length ≤ 15)) = true := by decide
  have := List.all_eq_true.1 hall x h
  simpa using this
def foddv : List (List UInt8) := [[32, 120], [195, 169], [97, 13, 10, 98], [111, 107]]
theorem foddv_len (x : List UInt8) (h : x ∈ foddv) : x.length ≤ 9 := by
  have hall : foddv.all (fun x => decide (x.length ≤ 9)) = true := by decide
  have := List.all_eq_true.1 hall x h
  simpa using this
def fasked : List (List UInt8) := [[97], [98], [120, 45, 107], [110, 111, 110, 101]]
theorem fasked_len (x : List UInt8) (h : x ∈ fasked) : x.length ≤ 4 := by
  have hall : fasked.all (fun x => decide (x.length ≤ 4)) = true := by decide
  have := List.all_eq_true.1 hall x h
  simpa using this
/-- Few short fields. -/
def Few (l : List Flds.Fld) : Prop := l.length ≤ 5 ∧ ∀ f ∈ l, f.1.length ≤ 15 ∧ f.2.length ≤ 9
theorem few_total {l : List Flds.Fld} (h : Few l) : Flds.total l ≤ 125 := by
  have hs : ∀ q : List Flds.Fld, (∀ f ∈ q, f.1.length ≤ 15 ∧ f.2.length ≤ 9) → (q.map Flds.wt).sum ≤ 24 * q.length := by
    intro q
    induction q with
    | nil => intro _; simp
    | cons a r ih =>
      intro hq
      have h1 := hq a (List.mem_cons_self ..)
      have h2 := ih (fun f hf => hq f (List.mem_cons_of_mem _ hf))
      rw [List.map_cons, List.sum_cons, List.length_cons]
      unfold Flds.wt at *
      omega
  have h1 := hs l h.2
  have h2 := h.1
  unfold Flds.total
  omega
theorem few_push {l : List Flds.Fld} {x y : List UInt8} (h : ∀ f ∈ l, f.1.length ≤ 15 ∧ f.2.length ≤ 9) (hx : x.length ≤ 15) (hy : y.length ≤ 9) : ∀ f ∈ l ++ [(x, y)], f.1.length ≤ 15 ∧ f.2.length ≤ 9 := by
  intro f hf
  rcases List.mem_append.1 hf with hf | hf
  · exact h f hf
  · rw [List.mem_singleton] at hf; subst hf; exact ⟨hx, hy⟩
theorem few_put {l : List Flds.Fld} {x y : List UInt8} (h : Few l) (k : Nat) (hx : x.length ≤ 15) (hy : y.length ≤ 9) : Few (l.set k (x, y)) := by
  refine ⟨by rw [List.length_set]; exact h.1, fun f hf => ?_⟩
  rcases List.mem_or_eq_of_mem_set hf with hf | hf
  · exact h.2 f hf
  · subst hf; exact ⟨hx, hy⟩
/-- A slice of fields of one's own that has a block. -/
def Sh (v : Value) (l : List Flds.Fld) : Prop := ∃ g cp, v = .slice (some ⟨g, 0, none⟩) l.length cp
theorem sh_own {w : World} {B n : Nat} {v : Value} {xs : List Value} {T : TypeId} {s : Nat} (h : w.ownsRow B T s v n xs) (h0 : 0 < n) : ∃ g cp, v = .slice (some ⟨g, 0, none⟩) n cp := by
  rcases h.2 with ⟨rfl, h1⟩ | ⟨g, cap, cur, rfl, _⟩
  · omega
  · exact ⟨g, cap, rfl⟩
/-- How a draw of fields ends. -/
def DrawnF (c : Nat) (bv : Value) (w : World) (e : Ending) (w' : World) : Prop := ∃ (v : Value) (l : List Flds.Fld), e = .returned v ∧ Few l ∧ Sh v l ∧ Flds.Own w' w.heap.size v l ∧ CurAt w' c bv ∧ w.grownBy w' (some c)

set_option maxHeartbeats 4000000 in
theorem flds_any (c B : Nat) (bv : Value) (w : World) (hcur : CurAt w c bv) (hby : Bytes w B bv) (hB : B ≤ c) :
    Calls Tryz.prog 67 #[.pointer (some ⟨c, 0, none⟩)] w (DrawnF c bv w) := by
  obtain ⟨i0, hi, hz0, hz1, hz2⟩ := info_parts Flds.info_fld
  have hcw := cur_lt hcur
  have hcu := cur_alloc hcur (.cells #[] 48)
  have hby1 := bytes_alloc hby (.cells #[] 48)
  have hgw : w.grownBy (w.alloc (.cells #[] 48)) (some c) := World.grownBy_alloc _ _ _
  have HO := Lib.hid (Flds.own_lit_nil w)
  clear hcur
  go_enter Tryz.func67, Tryz.ntmps67
  go_wp2_with (fail)
  go_at_call 91
  refine (below_any c B bv 6 _ hcu hby1 hB (by omega)).mono ?_
  rintro e w2 ⟨x, hx, rfl, hc2, hg2⟩
  obtain ⟨n, rfl, hn⟩ : ∃ n : Nat, x = (n : Int) ∧ n ≤ 5 := ⟨x.toNat, by have := hx.1; omega, by have := hx.1; have := hx.2; omega⟩
  have HO2 := Lib.hid (HO.out.kept hg2 (Or.inr (fun e => by have := (HO.out.lt _ e).1; omega)))
  have HI := Lib.hid (And.intro hc2 (gb_trans hgw hg2))
  have HBY := Lib.hid hby
  clear hx hc2 hg2 hby1 hby hgw hcu HO
  go_wp2
  go_loopw [3, 4] (fun u i wr => ∃ (k : Nat) (l : List Flds.Fld), i = .int .i64 (k : Int) ∧ l.length + k ≤ 5 ∧ Hid (∀ f ∈ l, f.1.length ≤ 15 ∧ f.2.length ≤ 9) ∧ Hid (Sh u l) ∧ Hid (Flds.Own wr w.heap.size u l) ∧ Hid (CurAt wr c bv) ∧ Hid (w.grownBy wr (some c))) (fun _ i _ => (intOf i).toNat)
  case atStart => exact ⟨n, [], rfl, by simp; omega, Lib.hid (fun f hf => by cases hf), Lib.hid ⟨_, _, rfl⟩, HO2, Lib.hid HI.out.1, Lib.hid HI.out.2⟩
  case round =>
    clear HI HO2
    obtain ⟨k, l, rfl, hl, HF, HS, HO, HC, HG⟩ := hrel
    by_cases hz : 0 < k
    · have hzi : 0 < (k : Int) := by omega
      have hyr := bytes_kept HBY.out HG.out hB
      have H1 := str_lits c B bv fnames 6 rfl wr HC.out hyr hB (by decide) (by decide) 9
      have hL := Flds.fcs_len l
      go_wp2_with (fail)
      go_at_call 65
      refine H1.mono ?_
      rintro e w3 ⟨x, hx, rfl, hc3, hg3⟩
      have HX := Lib.hid (fnames_len x hx)
      have HO3 := Lib.hid (HO.out.kept hg3 (Or.inr (fun e => by have := (HO.out.lt _ e).1; omega)))
      have HG3 := Lib.hid (gb_trans HG.out hg3)
      have hy3 := bytes_kept hyr hg3 hB
      have H2 := str_lits c B bv fvalues 7 rfl w3 hc3 hy3 hB (by decide) (by decide) 9
      clear hx hg3 hc3 HO HC HG H1 hyr hy3
      go_wp2_with (fail)
      go_at_call 65
      refine H2.mono ?_
      rintro e w4 ⟨y, hy, rfl, hc4, hg4⟩
      have HY := Lib.hid (fvalues_len y hy)
      have hown := HO3.out.kept hg4 (Or.inr (fun e => by have := (HO3.out.lt _ e).1; omega))
      have HG4 := Lib.hid (gb_trans HG3.out hg4)
      have HC4 := Lib.hid hc4
      have hsz4 := HG4.out.size
      clear hy hg4 hc4 HO3 HG3 H2
      have HK := Lib.hid (show (k : Int) - 1 = ((k - 1 : Nat) : Int) by omega)
      have HFP := Lib.hid (few_push HF.out HX.out HY.out)
      go_wp2_with (at_builtin; refine wpList_append_own _ rfl _ _ 22 rfl w.heap.size 48 i0 (.agg #[.string ⟨#[]⟩, .string ⟨#[]⟩]) 2 32 Tryz.underlying22 hi hz0 hz1 hz2 rfl (by decide) _ _ _ rfl (hown.alloc _) ⟨w4.heap.size, 0, none⟩ 1 1 [Flds.sv x, Flds.sv y] rfl rfl (Flds.news_two _ _ _ _) (Flds.two_one (x, y)) (by unfold maxLen; omega) (by omega) (by simp; omega) ?_; intro v1 w5 hown1 hg1 _)
      have R : Hid (Flds.Own w5 w.heap.size v1 (l ++ [(x, y)])) := Lib.hid (by show w5.ownsRow _ _ _ _ (l ++ [(x, y)]).length (Flds.fcs (l ++ [(x, y)])); rw [List.length_append, Flds.fcs_more]; exact hown1)
      have HS5 : Hid (Sh v1 (l ++ [(x, y)])) := Lib.hid (sh_own R.out (by simp))
      have HC5 := Lib.hid (cur_row (cur_alloc HC4.out _) hg1 (fun k e => by have := (hown.lt k e).1; omega))
      have HG5 := Lib.hid (gb_own (gb_trans HG4.out (World.grownBy_alloc _ _ _)) hg1 (fun k e => (hown.lt k e).1))
      clear hown hown1 hg1 HC4 HG4
      go_wp2
      go_roundw
      case rel => exact ⟨k - 1, l ++ [(x, y)], by rw [← HK.out], by rw [List.length_append]; simp; omega, HFP, HS5, R, HC5, HG5⟩
      case measure => simp [intOf]; omega
    · have hzi : ¬ 0 < (k : Int) := by omega
      have HE := Lib.hid (show l.length ≤ 5 by omega)
      clear hl
      go_wp2
      go_ret
      exact ⟨_, l, rfl, ⟨HE.out, HF.out⟩, HS.out, HO.out, HC.out, HG.out⟩

/-- How the laws' draws of fields end. -/
def OneF (w : World) (e : Ending) (w' : World) : Prop := ∃ (v : Value) (l : List Flds.Fld), e = .returned v ∧ Few l ∧ Flds.Own w' w.heap.size v l ∧ Below w.heap.size w w'
def TwoF (w : World) (e : Ending) (w' : World) : Prop := ∃ (v u : Value) (l m : List Flds.Fld), e = .returned (.tuple #[v, u]) ∧ Few l ∧ Few m ∧ Sh u m ∧ Flds.Own w' w.heap.size v l ∧ Flds.Own w' w.heap.size u m ∧ Below w.heap.size w w'
def OneFN (w : World) (e : Ending) (w' : World) : Prop := ∃ (v : Value) (l : List Flds.Fld) (n u : List UInt8), e = .returned (.tuple #[v, .string ⟨n.toArray⟩, .string ⟨u.toArray⟩]) ∧ Few l ∧ n.length ≤ 4 ∧ u.length ≤ 8 ∧ Flds.Own w' w.heap.size v l ∧ Below w.heap.size w w'

end Go.Proofs.YtfkejnbkglaokaaGreatDoor.Cur

/-
  CONTRACTS of the draws of chapter 11 (l11Target, l11Request): over any slice of bytes they answer a short target, a request with few short fields in memory of their own; nothing that was there before is changed.
-/
namespace Go.Proofs.YtfkejnbkglaokaaGreatDoor.Cur
open Go Go.RowKit
set_option linter.unusedVariables false
set_option maxRecDepth 1000000

theorem box4 {w : World} {g : Nat} {a b c d : Value} {T : TypeId} (h : w.heap[g]? = some (.cells #[a, b, c, d] T (0, 0))) :
    (w.cell? ⟨g, 0, none⟩ = some a ∧ w.cell? ⟨g, 1, none⟩ = some b ∧ w.cell? ⟨g, 2, none⟩ = some c ∧ w.cell? ⟨g, 3, none⟩ = some d) ∧ (w.frozen? ⟨g, 0, none⟩ = false ∧ w.frozen? ⟨g, 1, none⟩ = false ∧ w.frozen? ⟨g, 2, none⟩ = false ∧ w.frozen? ⟨g, 3, none⟩ = false) := by
  simp [World.cell?, World.frozen?, h]
theorem box4_new (w : World) (a b c d : Value) (T : TypeId) : (w.alloc (.cells #[a, b, c, d] T)).heap[w.heap.size]? = some (.cells #[a, b, c, d] T (0, 0)) := by
  show (w.heap.push _)[w.heap.size]? = _; simp
theorem blk_far {W w' : World} {c g : Nat} {o : Obj} (hW : W.heap[g]? = some o) (hg : W.grownBy w' (some c)) (hne : g ≠ c) : w'.heap[g]? = some o := (hg.block g (lt_of_block hW) (by simpa using hne)).trans hW
theorem blk_below {W w' : World} {g : Nat} {o : Obj} (hW : W.heap[g]? = some o) (hb : Below W.heap.size W w') : w'.heap[g]? = some o := (hb.block g (lt_of_block hW)).trans hW
theorem own_put1 {w : World} {B n g o : Nat} {v u : Value} {xs : List Value} {T : TypeId} {s : Nat} (h : w.ownsRow B T s v n xs) (hne : ∀ k, v.ownBlock = some k → k ≠ g) : (w.setCell ⟨g, o, none⟩ u).ownsRow B T s v n xs :=
  h.kept (gb_set w g o u) (Or.inr (fun e => hne g e rfl))
def mtargets : List (List UInt8) := [[47, 97], [47, 98], [47, 97, 63, 120, 61, 49, 38, 121, 61, 50], [47, 97, 63, 121, 61, 50, 38, 120, 61, 49], [47, 46, 47, 97], [47, 99, 47, 46, 46, 47, 97], [47, 37, 54, 49], [47, 112], [47, 112, 97, 103, 101], [47, 108, 97, 110, 103], [47, 109, 105, 110, 101], [47, 110, 111, 110, 101], [47, 98, 105, 103], [47, 65], [47, 97, 63]]
theorem mtargets_len (x : List UInt8) (h : x ∈ mtargets) : x.length ≤ 10 := by
  have hall : mtargets.all (fun x => decide (x.length ≤ 10)) = true := by decide
  have := List.all_eq_true.1 hall x h
  simpa using this
def mmethods : List (List UInt8) := [[71, 69, 84], [71, 69, 84], [71, 69, 84], [72, 69, 65, 68], [80, 79, 83, 84], [103, 101, 116]]
theorem mmethods_len (x : List UInt8) (h : x ∈ mmethods) : x.length ≤ 4 := by
  have hall : mmethods.all (fun x => decide (x.length ≤ 4)) = true := by decide
  have := List.all_eq_true.1 hall x h
  simpa using this
def mhosts : List (List UInt8) := [[104, 46, 101, 120, 97, 109, 112, 108, 101], [104, 46, 101, 120, 97, 109, 112, 108, 101], [120], [72]]
theorem mhosts_len (x : List UInt8) (h : x ∈ mhosts) : x.length ≤ 9 := by
  have hall : mhosts.all (fun x => decide (x.length ≤ 9)) = true := by decide
  have := List.all_eq_true.1 hall x h
  simpa using this
def modds : List (List UInt8) := [[97], [47, 97, 32, 98], [47, 195, 169], [42]]
theorem modds_len (x : List UInt8) (h : x ∈ modds) : x.length ≤ 4 := by
  have hall : modds.all (fun x => decide (x.length ≤ 4)) = true := by decide
  have := List.all_eq_true.1 hall x h
  simpa using this
theorem targ_any (c B : Nat) (bv : Value) (w : World) (hcur : CurAt w c bv) (hby : Bytes w B bv) (hB : B ≤ c) :
    Calls Tryz.prog 66 #[.pointer (some ⟨c, 0, none⟩)] w (DrawnS (fun x => x.length ≤ 10) c bv w) := by
  have H := str_lits c B bv mtargets 15 rfl w hcur hby hB (by decide) (by decide) 9
  go_enter Tryz.func66, Tryz.ntmps66
  go_wp2_with (fail)
  go_at_call 65
  refine H.mono ?_
  rintro e w1 ⟨x, hx, rfl, hc1, hg1⟩
  have HX := Lib.hid (mtargets_len x hx)
  clear hx
  go_wp2
  go_ret
  exact ⟨_, HX.out, rfl, hc1, hg1⟩

/-- Short texts of a request. -/
def ReqS (m h t : List UInt8) (l : List Flds.Fld) : Prop := m.length ≤ 4 ∧ h.length ≤ 9 ∧ t.length ≤ 40 ∧ Few l
def DrawnR (c : Nat) (bv : Value) (w : World) (e : Ending) (w' : World) : Prop := ∃ (m h t : List UInt8) (v : Value) (l : List Flds.Fld), e = .returned (.agg #[.string ⟨m.toArray⟩, .string ⟨h.toArray⟩, .string ⟨t.toArray⟩, v]) ∧ ReqS m h t l ∧ Sh v l ∧ Flds.Own w' w.heap.size v l ∧ CurAt w' c bv ∧ w.grownBy w' (some c)
set_option maxHeartbeats 8000000 in
theorem req_any (c B : Nat) (bv : Value) (w : World) (hcur : CurAt w c bv) (hby : Bytes w B bv) (hB : B ≤ c) :
    Calls Tryz.prog 40 #[.pointer (some ⟨c, 0, none⟩)] w (DrawnR c bv w) := by
  have hcl := cur_lt hcur
  have hc0 := cur_alloc hcur (.cells #[.string ⟨#[]⟩, .string ⟨#[]⟩, .string ⟨#[]⟩, .slice none 0 0] 24)
  have hy0 := bytes_alloc hby (.cells #[.string ⟨#[]⟩, .string ⟨#[]⟩, .string ⟨#[]⟩, .slice none 0 0] 24)
  have HBX := Lib.hid (box4_new w (.string ⟨#[]⟩) (.string ⟨#[]⟩) (.string ⟨#[]⟩) (.slice none 0 0) 24)
  have HG0 : Hid (w.grownBy (w.alloc (.cells #[.string ⟨#[]⟩, .string ⟨#[]⟩, .string ⟨#[]⟩, .slice none 0 0] 24)) (some c)) := Lib.hid (World.grownBy_alloc _ _ _)
  have hsz : (w.alloc (.cells #[.string ⟨#[]⟩, .string ⟨#[]⟩, .string ⟨#[]⟩, .slice none 0 0] 24)).heap.size = w.heap.size + 1 := by simp
  have HSZ := Lib.hid hsz
  have H1 := str_lits c B bv mmethods 6 rfl _ hc0 hy0 hB (by decide) (by decide) 9
  rw [hsz] at H1
  clear hsz
  clear hcur hby hc0
  go_enter Tryz.func40, Tryz.ntmps40
  go_wp2_with (fail)
  go_at_call 65
  refine H1.mono ?_
  rintro e w1 ⟨m, hm, rfl, hc1, hg1⟩
  have HM := Lib.hid (mmethods_len m hm)
  have hy1 := bytes_kept hy0 hg1 hB
  have HG1 := Lib.hid hg1
  have H2 := str_lits c B bv mhosts 4 rfl w1 hc1 hy1 hB (by decide) (by decide) 9
  clear hm hy0 hc1 hg1 H1
  go_wp2_with (fail)
  go_at_call 65
  refine H2.mono ?_
  rintro e w2 ⟨h, hh, rfl, hc2, hg2⟩
  have HH := Lib.hid (mhosts_len h hh)
  have hy2 := bytes_kept hy1 hg2 hB
  have HG2 := Lib.hid (gb_trans HG1.out hg2)
  clear hh hy1 hg2 H2 HG1
  go_wp2_with (fail)
  go_at_call 66
  refine (targ_any c B bv w2 hc2 hy2 hB).mono ?_
  rintro e w3 ⟨t, ht, rfl, hc3, hg3⟩
  have HT : Hid (t.length ≤ 10) := Lib.hid ht
  have hy3 := bytes_kept hy2 hg3 hB
  have HG3 := Lib.hid (gb_trans HG2.out hg3)
  have hs3 : w.heap.size + 1 ≤ w3.heap.size := by have := HG3.out.size; rw [HSZ.out] at this; exact this
  clear ht hy2 hg3 hc2 HG2
  go_wp2_with (fail)
  go_at_call 67
  refine (flds_any c B bv w3 hc3 hy3 hB).mono ?_
  rintro e w4 ⟨v, l, rfl, hfw, ⟨g, cp, rfl⟩, ho, hc4, hg4⟩
  have hy4 := bytes_kept hy3 hg4 hB
  have HG4 := Lib.hid (gb_trans HG3.out hg4)
  have hgl := ho.lt g rfl
  have HF := Lib.hid hfw
  have HO4 := Lib.hid (ho.alloc (.cells #[.string ⟨m.toArray⟩, .string ⟨h.toArray⟩, .string ⟨t.toArray⟩, .slice (some ⟨g, 0, none⟩) l.length cp] 24))
  have hca := cur_alloc hc4 (.cells #[.string ⟨m.toArray⟩, .string ⟨h.toArray⟩, .string ⟨t.toArray⟩, .slice (some ⟨g, 0, none⟩) l.length cp] 24)
  have hya := bytes_alloc hy4 (.cells #[.string ⟨m.toArray⟩, .string ⟨h.toArray⟩, .string ⟨t.toArray⟩, .slice (some ⟨g, 0, none⟩) l.length cp] 24)
  have HBY := Lib.hid (box4_new w4 (.string ⟨m.toArray⟩) (.string ⟨h.toArray⟩) (.string ⟨t.toArray⟩) (.slice (some ⟨g, 0, none⟩) l.length cp) 24)
  have HGA := Lib.hid (gb_trans HG4.out (World.grownBy_alloc w4 (.cells #[.string ⟨m.toArray⟩, .string ⟨h.toArray⟩, .string ⟨t.toArray⟩, .slice (some ⟨g, 0, none⟩) l.length cp] 24) _))
  have hg40 : g < w4.heap.size := hgl.2
  have hg41 : w3.heap.size ≤ g := hgl.1
  have hcw4 := cur_lt hc4
  have hs4 := HG4.out.size
  rw [HSZ.out] at hs4
  clear hfw ho hc3 hy3 hc4 hg4 hy4 HG3 hgl HG4
  go_wp2_with (fail)
  go_at_call 68
  refine (once_any c B bv 12 _ hca hya hB (by omega)).mono ?_
  rintro e w5 ⟨q, rfl, hc5, hg5⟩
  have hy5 := bytes_kept hya hg5 hB
  have HO5 := Lib.hid (HO4.out.kept hg5 (Or.inr (fun e => by have h := (HO4.out.lt _ e).1; omega)))
  have HG5 := Lib.hid (gb_trans HGA.out hg5)
  have HB5 := Lib.hid (blk_far HBY.out hg5 (by omega))
  clear hca hya HO4 HBY HGA hg5
  cases q with
  | false =>
    obtain ⟨⟨x0, x1, x2, x3⟩, ⟨f0, f1, f2, f3⟩⟩ := box4 (blk_far HBX.out HG5.out (by omega))
    obtain ⟨⟨y0, y1, y2, y3⟩, _⟩ := box4 HB5.out
    have HGW := Lib.hid (gb_trans HG0.out HG5.out)
    have HC5 := Lib.hid hc5
    have HNE : Hid (∀ k, (Value.slice (some ⟨g, 0, none⟩) l.length cp).ownBlock = some k → k ≠ w.heap.size) := Lib.hid (fun k e => by have h := (HO5.out.lt _ e).1; omega)
    have hne : w.heap.size ≠ c := by omega
    have hne2 : w.heap.size ≠ w4.heap.size := by omega
    clear hc5 hy5
    go_wp2
    have HGG := Lib.hid (gb_own (gb_own (gb_own (gb_own HGW.out (gb_set _ w.heap.size 0 (.string ⟨m.toArray⟩)) (fun k e => by cases e; exact Nat.le_refl _)) (gb_set _ w.heap.size 1 (.string ⟨h.toArray⟩)) (fun k e => by cases e; exact Nat.le_refl _)) (gb_set _ w.heap.size 2 (.string ⟨t.toArray⟩)) (fun k e => by cases e; exact Nat.le_refl _)) (gb_set _ w.heap.size 3 (.slice (some ⟨g, 0, none⟩) l.length cp)) (fun k e => by cases e; exact Nat.le_refl _))
    have HCC := Lib.hid (cur_row (cur_row (cur_row (cur_row HC5.out (gb_set _ w.heap.size 0 (.string ⟨m.toArray⟩)) (fun k e => by cases e; exact hne)) (gb_set _ w.heap.size 1 (.string ⟨h.toArray⟩)) (fun k e => by cases e; exact hne)) (gb_set _ w.heap.size 2 (.string ⟨t.toArray⟩)) (fun k e => by cases e; exact hne)) (gb_set _ w.heap.size 3 (.slice (some ⟨g, 0, none⟩) l.length cp)) (fun k e => by cases e; exact hne))
    have HOO := Lib.hid (Flds.own_mono (own_put1 (u := .slice (some ⟨g, 0, none⟩) l.length cp) (o := 3) (own_put1 (u := .string ⟨t.toArray⟩) (o := 2) (own_put1 (u := .string ⟨h.toArray⟩) (o := 1) (own_put1 (u := .string ⟨m.toArray⟩) (o := 0) HO5.out HNE.out) HNE.out) HNE.out) HNE.out) (B' := w.heap.size) (by omega))
    refine bodyPost_ret (v := .agg #[.string ⟨m.toArray⟩, .string ⟨h.toArray⟩, .string ⟨t.toArray⟩, .slice (some ⟨g, 0, none⟩) l.length cp]) (by simp [results, Tryz.results40, go_sem, x0, x1, x2, x3]) rfl ⟨m, h, t, _, l, rfl, ⟨HM.out, HH.out, Nat.le_trans HT.out (by decide), HF.out⟩, ⟨g, cp, rfl⟩, HOO.out, HCC.out, HGG.out⟩
  | true =>
    have H3 := str_lits c B bv modds 4 rfl w5 hc5 hy5 hB (by decide) (by decide) 9
    clear hc5 hy5
    go_wp2_with (fail)
    go_at_call 65
    refine H3.mono ?_
    rintro e w6 ⟨z, hz, rfl, hc6, hg6⟩
    have HZ := Lib.hid (modds_len z hz)
    have HO6 := Lib.hid (HO5.out.kept hg6 (Or.inr (fun e => by have h := (HO5.out.lt _ e).1; omega)))
    have HG6 := Lib.hid (gb_trans HG5.out hg6)
    obtain ⟨⟨x0, x1, x2, x3⟩, ⟨f0, f1, f2, f3⟩⟩ := box4 (blk_far HBX.out HG6.out (by omega))
    obtain ⟨⟨y0, y1, y2, y3⟩, ⟨e0, e1, e2, e3⟩⟩ := box4 (blk_far HB5.out hg6 (by omega))
    have HGW := Lib.hid (gb_own (gb_trans HG0.out HG6.out) (gb_set _ w4.heap.size 2 (.string ⟨z.toArray⟩)) (fun k e => by cases e; omega))
    have HC6 := Lib.hid (cur_row hc6 (gb_set _ w4.heap.size 2 (.string ⟨z.toArray⟩)) (fun k e => by cases e; omega))
    have HO7 := Lib.hid (own_put1 (g := w4.heap.size) (u := .string ⟨z.toArray⟩) (o := 2) HO6.out (fun k e => by have h9 : some g = some k := e; cases h9; omega))
    have HNE : Hid (∀ k, (Value.slice (some ⟨g, 0, none⟩) l.length cp).ownBlock = some k → k ≠ w.heap.size) := Lib.hid (fun k e => by have h := (HO6.out.lt _ e).1; omega)
    have hne : w.heap.size ≠ c := by omega
    have hne2 : w.heap.size ≠ w4.heap.size := by omega
    clear hz hc6 hg6 HO5 HG5 HB5 H3
    go_wp2
    have HGG := Lib.hid (gb_own (gb_own (gb_own (gb_own HGW.out (gb_set _ w.heap.size 0 (.string ⟨m.toArray⟩)) (fun k e => by cases e; exact Nat.le_refl _)) (gb_set _ w.heap.size 1 (.string ⟨h.toArray⟩)) (fun k e => by cases e; exact Nat.le_refl _)) (gb_set _ w.heap.size 2 (.string ⟨z.toArray⟩)) (fun k e => by cases e; exact Nat.le_refl _)) (gb_set _ w.heap.size 3 (.slice (some ⟨g, 0, none⟩) l.length cp)) (fun k e => by cases e; exact Nat.le_refl _))
    have HCC := Lib.hid (cur_row (cur_row (cur_row (cur_row HC6.out (gb_set _ w.heap.size 0 (.string ⟨m.toArray⟩)) (fun k e => by cases e; exact hne)) (gb_set _ w.heap.size 1 (.string ⟨h.toArray⟩)) (fun k e => by cases e; exact hne)) (gb_set _ w.heap.size 2 (.string ⟨z.toArray⟩)) (fun k e => by cases e; exact hne)) (gb_set _ w.heap.size 3 (.slice (some ⟨g, 0, none⟩) l.length cp)) (fun k e => by cases e; exact hne))
    have HOO := Lib.hid (Flds.own_mono (own_put1 (u := .slice (some ⟨g, 0, none⟩) l.length cp) (o := 3) (own_put1 (u := .string ⟨z.toArray⟩) (o := 2) (own_put1 (u := .string ⟨h.toArray⟩) (o := 1) (own_put1 (u := .string ⟨m.toArray⟩) (o := 0) HO7.out HNE.out) HNE.out) HNE.out) HNE.out) (B' := w.heap.size) (by omega))
    refine bodyPost_ret (v := .agg #[.string ⟨m.toArray⟩, .string ⟨h.toArray⟩, .string ⟨z.toArray⟩, .slice (some ⟨g, 0, none⟩) l.length cp]) (by simp [results, Tryz.results40, go_sem, x0, x1, x2, x3]) rfl ⟨m, h, z, _, l, rfl, ⟨HM.out, HH.out, Nat.le_trans HZ.out (by decide), HF.out⟩, ⟨g, cp, rfl⟩, HOO.out, HCC.out, HGG.out⟩
end Go.Proofs.YtfkejnbkglaokaaGreatDoor.Cur

/-
  CONTRACTS of the draws out of a list (l1Int, l1Odd, l1One): each answers an integer of 64 bits, writes into the cursor alone, and leaves it a cursor over the same bytes.
-/
namespace Go.Proofs.YtfkejnbkglaokaaGreatDoor.Cur
open Go Go.RowKit
set_option linter.unusedVariables false
set_option maxRecDepth 1000000

def Fits (x : Int) : Prop := -9223372036854775808 ≤ x ∧ x ≤ 9223372036854775807

theorem int_any (c B : Nat) (bv : Value) (b len cap : Nat) (f : Nat → Int) (w : World) (hcur : CurAt w c bv) (hby : Bytes w B bv) (hB : B ≤ c)
    (hb : b ≠ c) (hbl : b < w.heap.size) (h1 : 1 ≤ len) (hl : len ≤ 1000000) (hf : ∀ j, j < len → w.cell? ⟨b, j, none⟩ = some (.int .i64 (f j))) :
    Calls Tryz.prog 70 #[.pointer (some ⟨c, 0, none⟩), .slice (some ⟨b, 0, none⟩) len cap] w (Drawn (fun x => ∃ j, j < len ∧ x = f j) c bv w) := by
  have HF := Lib.hid hf
  clear hf
  go_enter Tryz.func70, Tryz.ntmps70
  go_wp2_with (fail)
  go_at_call 91
  refine (below_any c B bv _ _ hcur hby hB (by omega)).mono ?_
  rintro e w1 ⟨x, hx, rfl, hc1, hg1⟩
  obtain ⟨j, rfl, hj⟩ : ∃ j : Nat, x = (j : Int) ∧ j < len := ⟨x.toNat, by have := hx.1; omega, by have := hx.1; have := hx.2; omega⟩
  have hcell : w1.cell? ⟨b, j, none⟩ = some (.int .i64 (f j)) := hg1.cell (HF.out j hj) (by simp; omega)
  clear hx
  go_wp2
  go_ret
  exact ⟨_, ⟨j, hj, rfl⟩, rfl, hc1, hg1⟩

theorem lits_at (w : World) (zs : List Int) (T : TypeId) (j : Nat) (h : j < zs.length) :
    (w.alloc (.cells ((zs.map (Value.int .i64)).toArray) T)).cell? ⟨w.heap.size, j, none⟩ = some (.int .i64 (zs.getD j 0)) := by
  rw [World.cell?_alloc_new]
  simp [List.getD, h]
/-- l1Int over a list that was just written out. -/
theorem int_lits (c B : Nat) (bv : Value) (zs : List Int) (n : Nat) (hn : n = zs.length) (w : World) (hcur : CurAt w c bv) (hby : Bytes w B bv) (hB : B ≤ c) (h1 : 1 ≤ zs.length) (hl : zs.length ≤ 1000000) (T : TypeId) :
    Calls Tryz.prog 70 #[.pointer (some ⟨c, 0, none⟩), .slice (some ⟨w.heap.size, 0, none⟩) n n] (w.alloc (.cells ((zs.map (Value.int .i64)).toArray) T))
      (Drawn (fun x => x ∈ zs) c bv w) := by
  subst hn
  refine (int_any c B bv w.heap.size zs.length zs.length (fun j => zs.getD j 0) _ (cur_alloc hcur _) (bytes_alloc hby _) hB (by have := cur_lt hcur; omega) (by simp) h1 hl (fun j hj => lits_at w zs T j hj)).mono ?_
  rintro e w1 ⟨x, ⟨j, hj, rfl⟩, rfl, hc1, hg1⟩
  refine ⟨_, ?_, rfl, hc1, gb_trans (World.grownBy_alloc _ _ _) hg1⟩
  simp [List.getD, hj]

def odds : List Int := [-1, 0, 1, 2, 255, 256, 65535, 2147483647, 2147483648, 4294967295, 4294967296, -2147483648, 9223372036854775807, -9223372036854775808]
theorem odds_fit (x : Int) (h : x ∈ odds) : Fits x := by
  unfold odds at h; unfold Fits
  simp at h
  omega
theorem wrap_fits (n : Int) : Fits (wrap64 n) := by unfold Fits wrap64; omega
end Go.Proofs.YtfkejnbkglaokaaGreatDoor.Cur
