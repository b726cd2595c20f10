/-
  CONTRACTS AND PLAIN FACTS, several texts in one; each says in its own words what it proves.
-/
import Derived.Test.YtndbhjgfaghelaaGreatDoorPartA
import Derived.ChangeSlices
import Derived.OwnWalk
import Derived.Laws.OwnMore
import Derived.Laws.AppendOwn
import Derived.LoopTactic
import Derived.Outline
import Derived.Deep.SlicePairs
import Derived.RegionTactic
import Derived.Deep.RegionWith
import Derived.Test.YtndbhjgfaghelaaGreatDoorPartE
import Derived.Test.YtndbhjgfaghelaaGreatDoorPartF
set_option linter.unusedSimpArgs false
set_option linter.unusedVariables false

/-
  PLAIN FACTS on slices of fields (a name and a value): what a slice holds, how that is kept, and how a slice that the call itself has built is such a one.
-/
namespace Go.Proofs.YtndbhjgfaghelaaGreatDoor.Flds
open Go Go.RowKit
set_option linter.unusedVariables false
set_option maxRecDepth 1000000

theorem info_fld : (Tryz.prog.info? 75).map (fun i => (i.zero, i.size, i.bytes)) = some (some (.agg #[.string ⟨#[]⟩, .string ⟨#[]⟩]), 2, 32) := by kernel_rfl

abbrev Fld : Type := List UInt8 × List UInt8
def sv (x : List UInt8) : Value := .string ⟨x.toArray⟩
def fv (f : Fld) : Value := .agg #[sv f.1, sv f.2]
def fcs (l : List Fld) : List Value := l.flatMap (fun f => [sv f.1, sv f.2])
def nofld : Fld := ([], [])
theorem fcs_len (l : List Fld) : (fcs l).length = l.length * 2 := by
  unfold fcs
  induction l with
  | nil => rfl
  | cons a r ih => rw [List.flatMap_cons, List.length_append, ih]; simp; omega
theorem fcs_more (l : List Fld) (f : Fld) : fcs (l ++ [f]) = fcs l ++ [sv f.1, sv f.2] := by unfold fcs; simp
theorem fcs_at {l : List Fld} {j : Nat} (h : j < l.length) : (fcs l)[j * 2]? = some (sv (l.getD j nofld).1) ∧ (fcs l)[j * 2 + 1]? = some (sv (l.getD j nofld).2) := by
  induction l generalizing j with
  | nil => simp at h
  | cons a r ih =>
    cases j with
    | zero => exact ⟨rfl, rfl⟩
    | succ j =>
      have h' := ih (j := j) (by simpa using h)
      have e1 : (j + 1) * 2 = j * 2 + 1 + 1 := by omega
      rw [e1]
      show (sv a.1 :: sv a.2 :: fcs r)[_]? = _ ∧ (sv a.1 :: sv a.2 :: fcs r)[_]? = _
      simpa using h'
theorem fcs_one (l : List Fld) : ∀ u ∈ fcs l, u.oneCell' = true := by
  intro u hu
  obtain ⟨f, _, hf⟩ := List.mem_flatMap.1 hu
  simp at hf
  rcases hf with rfl | rfl <;> rfl
theorem two_one (f : Fld) : ∀ u ∈ [sv f.1, sv f.2], u.oneCell' = true := by
  intro u hu; simp at hu; rcases hu with rfl | rfl <;> rfl

/-- The cells from (b, off) on are these fields. -/
def At (w : World) (b off : Nat) (l : List Fld) : Prop := ∀ j, j < l.length → w.cell? ⟨b, off + j * 2, none⟩ = some (sv (l.getD j nofld).1) ∧ w.cell? ⟨b, off + j * 2 + 1, none⟩ = some (sv (l.getD j nofld).2)
/-- The slice v reads as the fields l; its cells lie below block B. -/
def Holds (w : World) (B : Nat) (v : Value) (l : List Fld) : Prop := (l = [] ∧ ∃ a cap, v = .slice a 0 cap) ∨ (0 < l.length ∧ ∃ b off cap, v = .slice (some ⟨b, off, none⟩) l.length cap ∧ b < B ∧ l.length ≤ cap ∧ At w b off l)

theorem lt_of_cell {w : World} {b o : Nat} {u : Value} (h : w.cell? ⟨b, o, none⟩ = some u) : b < w.heap.size := by
  rcases Nat.lt_or_ge b w.heap.size with h' | h'
  · exact h'
  · simp [World.cell?, Array.getElem?_eq_none h'] at h
theorem at_lt {w : World} {b off : Nat} {l : List Fld} (h : At w b off l) (h0 : 0 < l.length) : b < w.heap.size := lt_of_cell (h 0 h0).1
theorem at_below {w w' : World} {B b off : Nat} {l : List Fld} (h : At w b off l) (hb : Below B w w') (hlt : b < B) : At w' b off l := fun j hj => by
  rw [hb.cell (p := ⟨b, off + j * 2, none⟩) hlt, hb.cell (p := ⟨b, off + j * 2 + 1, none⟩) hlt]; exact h j hj
theorem holds_more {w : World} {B B' : Nat} {v : Value} {l : List Fld} (h : Holds w B v l) (hB : B ≤ B') : Holds w B' v l := by
  rcases h with h | ⟨h0, b, off, cap, rfl, h2, hc, h1⟩
  · exact Or.inl h
  · exact Or.inr ⟨h0, b, off, cap, rfl, by omega, hc, h1⟩
theorem holds_below {w w' : World} {B : Nat} {v : Value} {l : List Fld} (h : Holds w B v l) (hb : Below B w w') : Holds w' B v l := by
  rcases h with h | ⟨h0, b, off, cap, rfl, hB, hc, h1⟩
  · exact Or.inl h
  · exact Or.inr ⟨h0, b, off, cap, rfl, hB, hc, at_below h1 hb hB⟩
abbrev Own (w : World) (B : Nat) (v : Value) (l : List Fld) : Prop := w.ownsRow B 75 2 v l.length (fcs l)
theorem own_len {w : World} {B : Nat} {v : Value} {l : List Fld} {n : Nat} (h : w.ownsRow B 75 2 v n (fcs l)) : n = l.length := by
  have := h.1; rw [fcs_len] at this; omega
theorem own_cell {w : World} {B g cap : Nat} {l : List Fld} {n : Nat} (h : w.ownsRow B 75 2 (.slice (some ⟨g, 0, none⟩) n cap) n (fcs l)) {j : Nat} (hj : j < n) :
    w.cell? ⟨g, j * 2, none⟩ = some (sv (l.getD j nofld).1) ∧ w.cell? ⟨g, j * 2 + 1, none⟩ = some (sv (l.getD j nofld).2) := by
  have hn := own_len h
  have hf := fcs_at (l := l) (j := j) (by omega)
  have hc := h.cells (g := g) rfl
  have h1 := hc _ _ hf.1
  have h2 := hc _ _ hf.2
  simp only [WideShapes.add_plain, Nat.zero_add] at h1 h2
  exact ⟨h1, h2⟩
theorem own_holds {w : World} {B : Nat} {v : Value} {l : List Fld} (h : Own w B v l) : Holds w w.heap.size v l := by
  have h' := h
  obtain ⟨hl, hc⟩ := h
  rcases hc with ⟨rfl, h0⟩ | ⟨g, cap, cur, rfl, hb, hg, hn, hcap, hs, ht⟩
  · exact Or.inl ⟨List.eq_nil_of_length_eq_zero h0, _, _, rfl⟩
  · by_cases h0 : l = []
    · subst h0; exact Or.inl ⟨rfl, _, _, rfl⟩
    · refine Or.inr ⟨List.length_pos_iff.2 h0, g, 0, cap, rfl, (h'.lt g rfl).2, hn, fun j hj => ?_⟩
      rw [Nat.zero_add]; exact own_cell h' hj
theorem own_below {w w' : World} {B : Nat} {v : Value} {l : List Fld} (h : Own w B v l) (hb : Below w.heap.size w w') : Own w' B v l := by
  obtain ⟨hl, hc⟩ := h
  refine ⟨hl, ?_⟩
  rcases hc with h0 | ⟨g, cap, cur, rfl, h1, h2, h3⟩
  · exact Or.inl h0
  · have hlt : g < w.heap.size := by
      rcases Nat.lt_or_ge g w.heap.size with h' | h'
      · exact h'
      · rw [Array.getElem?_eq_none h'] at h2; cases h2
    exact Or.inr ⟨g, cap, cur, rfl, h1, by rw [hb.block g hlt]; exact h2, h3⟩
theorem own_mono {w : World} {B B' : Nat} {v : Value} {l : List Fld} (h : Own w B v l) (hB : B' ≤ B) : Own w B' v l := by
  obtain ⟨hl, hc⟩ := h
  refine ⟨hl, ?_⟩
  rcases hc with h0 | ⟨g, cap, cur, rfl, h1, h2, h3⟩
  · exact Or.inl h0
  · exact Or.inr ⟨g, cap, cur, rfl, by omega, h2, h3⟩
theorem news_two (w : World) (x y : Value) (T : TypeId) : ∀ j u, [x, y][j]? = some u → (w.alloc (.cells #[x, y] T)).cell? ((⟨w.heap.size, 0, none⟩ : Addr).add j) = some u := by
  intro j u hj
  rw [WideShapes.add_plain, Nat.zero_add, World.cell?_alloc_new]
  simpa using hj
/-- One more field behind a slice that the call has built. -/
theorem push_own {B : Nat} {a w w1 : World} {v v' : Value} {l : List Fld} {f : Fld} {o : Obj} (hown : Own w B v l) (hb : Below a.heap.size a w) (hB : a.heap.size ≤ B)
    (h' : w1.ownsRow B 75 2 v' (l.length + 1) (fcs l ++ [sv f.1, sv f.2])) (hg : (w.alloc o).grownBy w1 v.ownBlock) :
    Own w1 B v' (l ++ [f]) ∧ Below a.heap.size a w1 := by
  refine ⟨by show w1.ownsRow B 75 2 v' (l ++ [f]).length (fcs (l ++ [f])); rw [List.length_append, fcs_more]; exact h', (hb.alloc hb.size o).grown hg (by have := hb.size; simp; omega) (fun k e => Nat.le_trans hB (hown.lt k e).1)⟩
theorem own_lit_nil (w : World) : Own (w.alloc (.cells #[] 75)) w.heap.size (.slice (some ⟨w.heap.size, 0, none⟩) 0 0) [] := World.ownsRow_lit w #[] 0 (Nat.le_refl _) (by decide) rfl
end Go.Proofs.YtndbhjgfaghelaaGreatDoor.Flds

/-
  PLAIN FACTS on the size of a list of fields, and on a list that is filled from the left.
-/
namespace Go.Proofs.YtndbhjgfaghelaaGreatDoor.Flds
open Go Go.RowKit
set_option linter.unusedVariables false
set_option maxRecDepth 1000000

def wt (f : Fld) : Nat := f.1.length + f.2.length
def total (l : List Fld) : Nat := (l.map wt).sum + l.length
theorem total_nil : total [] = 0 := rfl
def pre (l : List Fld) (k : Nat) : Nat := ((l.take k).map wt).sum
theorem pre_zero (l : List Fld) : pre l 0 = 0 := by unfold pre; simp
theorem pre_more {l : List Fld} {k : Nat} (h : k < l.length) : pre l (k + 1) = pre l k + ((l.getD k nofld).1.length + (l.getD k nofld).2.length) := by
  unfold pre; rw [List.take_succ_eq_append_getElem h, List.map_append, List.sum_append]; simp [List.getD, h, wt]
theorem pre_all {l : List Fld} {k : Nat} (h : k = l.length) : total l = pre l k + l.length := by unfold pre total; subst h; simp

def part (l : List Fld) (k : Nat) : List Fld := l.take k ++ List.replicate (l.length - k) nofld
theorem part_len (l : List Fld) {k : Nat} (h : k ≤ l.length) : (part l k).length = l.length := by
  unfold part; rw [List.length_append, List.length_take, List.length_replicate]; omega
theorem part_zero (l : List Fld) : part l 0 = List.replicate l.length nofld := by unfold part; simp
theorem part_all (l : List Fld) : part l l.length = l := by unfold part; simp
theorem part_more {l : List Fld} {k : Nat} (h : k < l.length) : (part l k).set k (l.getD k nofld) = part l (k + 1) := by
  unfold part
  rw [List.set_append_right _ _ (by rw [List.length_take]; omega), List.length_take, show k - min k l.length = 0 by omega,
    show l.length - k = (l.length - (k + 1)) + 1 by omega, List.replicate_succ, List.set_cons_zero, List.take_succ_eq_append_getElem h, List.append_assoc]
  simp [List.getD, h]
/-- Two cells of a field are set one behind the other. -/
theorem fcs_set (l : List Fld) (k : Nat) (f : Fld) : ((fcs l).set (k * 2) (sv f.1)).set (k * 2 + 1) (sv f.2) = fcs (l.set k f) := by
  induction l generalizing k with
  | nil => simp [fcs]
  | cons a r ih =>
    have e0 : ∀ (x : Fld) (q : List Fld), fcs (x :: q) = sv x.1 :: sv x.2 :: fcs q := fun x q => rfl
    cases k with
    | zero => rfl
    | succ k =>
      rw [show (k + 1) * 2 = k * 2 + 1 + 1 by omega, List.set_cons_succ, e0, e0, List.set_cons_succ, List.set_cons_succ, List.set_cons_succ, List.set_cons_succ, ih]
theorem fcs_rep (n : Nat) : fcs (List.replicate n nofld) = List.replicate (n * 2) (sv []) := by
  induction n with
  | zero => rfl
  | succ n ih =>
    rw [List.replicate_succ, show (n + 1) * 2 = n * 2 + 1 + 1 by omega, List.replicate_succ, List.replicate_succ, ← ih]
    rfl
theorem made_part (l : List Fld) : (madeCells (Value.agg #[.string ⟨#[]⟩, .string ⟨#[]⟩]).cells (l.length * 2)).toList = fcs (part l 0) := by
  rw [part_zero, fcs_rep, show (Value.agg #[.string ⟨#[]⟩, .string ⟨#[]⟩]).cells = #[sv [], sv []] from rfl]
  have e : ∀ i : Nat, (#[sv [], sv []] : Array Value)[i % 2]! = sv [] := by
    intro i; rcases Nat.mod_two_eq_zero_or_one i with h | h <;> rw [h] <;> rfl
  unfold madeCells
  rw [Array.toList_map, List.eq_replicate_iff]
  refine ⟨by simp, fun b hb => ?_⟩
  obtain ⟨i, _, rfl⟩ := List.mem_map.1 hb
  exact e i
/-- What the call has built is kept by what only adds. -/
theorem row_below {w w' : World} {B n : Nat} {T : TypeId} {sz : Nat} {v : Value} {xs : List Value} (h : w.ownsRow B T sz v n xs) (hb : Below w.heap.size w w') : w'.ownsRow B T sz v n xs := by
  obtain ⟨hl, hc⟩ := h
  refine ⟨hl, ?_⟩
  rcases hc with h0 | ⟨g, cap, cur, rfl, h1, h2, h3⟩
  · exact Or.inl h0
  · have hlt : g < w.heap.size := by
      rcases Nat.lt_or_ge g w.heap.size with h' | h'
      · exact h'
      · rw [Array.getElem?_eq_none h'] at h2; cases h2
    exact Or.inr ⟨g, cap, cur, rfl, h1, by rw [hb.block g hlt]; exact h2, h3⟩
theorem row_grown {w w' : World} {B n : Nat} {T : TypeId} {sz : Nat} {v : Value} {xs : List Value} {row : Option Nat} (h : w.ownsRow B T sz v n xs) (hg : w.grownBy w' row) (hr : ∀ g, v.ownBlock = some g → some g ≠ row) : w'.ownsRow B T sz v n xs := by
  obtain ⟨hl, hc⟩ := h
  refine ⟨hl, ?_⟩
  rcases hc with h0 | ⟨g, cap, cur, rfl, h1, h2, h3⟩
  · exact Or.inl h0
  · have hlt : g < w.heap.size := by
      rcases Nat.lt_or_ge g w.heap.size with h' | h'
      · exact h'
      · rw [Array.getElem?_eq_none h'] at h2; cases h2
    exact Or.inr ⟨g, cap, cur, rfl, h1, by rw [hg.block g hlt (hr g rfl)]; exact h2, h3⟩
theorem holds_grown {w w' : World} {B : Nat} {v : Value} {l : List Fld} {row : Option Nat} (h : Holds w B v l) (hg : w.grownBy w' row) (hr : ∀ k, row = some k → B ≤ k) : Holds w' B v l := by
  rcases h with h | ⟨h0, b, off, cap, rfl, hB, hc, h1⟩
  · exact Or.inl h
  · exact Or.inr ⟨h0, b, off, cap, rfl, hB, hc, fun j hj => ⟨hg.cell (h1 j hj).1 (fun e => by have := hr b e.symm; omega), hg.cell (h1 j hj).2 (fun e => by have := hr b e.symm; omega)⟩⟩
end Go.Proofs.YtndbhjgfaghelaaGreatDoor.Flds

/-
  CONTRACTS of the laws' helpers for slices of fields: an argument of that type, opened; its size (szFieldS). Nothing that was there before is changed.
-/
namespace Go.Proofs.YtndbhjgfaghelaaGreatDoor.Flds
open Go Go.RowKit
set_option linter.unusedVariables false
set_option maxRecDepth 1000000

theorem trod_text {H : Type} {enc : TypeId × Value → H} {W : World} {n : Nat} {sp : Nat → Bool} {v : Value} {x : DataW H × List MemPlace} (h : DataW.trod enc Tryz.prog W 0 sp true n 9 [v] = some x) : ∃ s : ByteArray, v = .string s ∧ s.size ≤ maxLen := by
  obtain ⟨s, h1, h2, h3⟩ := DataW.trod_string Tryz.underlying9 h
  exact ⟨s, by simpa using h1, h3⟩

/-- What szFieldS answers: not below 0 just where the size is at most what is left. -/
def Sized (l : List Fld) (left : Int) (w : World) (e : Ending) (w' : World) : Prop := ∃ z : Int, e = .returned (.int .i64 z) ∧ (z < 0 ∨ (0 ≤ z ∧ z + total l = left)) ∧ Below w.heap.size w w'

end Go.Proofs.YtndbhjgfaghelaaGreatDoor.Flds

/-
  A SLICE OF FIELDS that stands in one cell of a struct (as in a request or a response), opened.
-/
namespace Go.Proofs.YtndbhjgfaghelaaGreatDoor.Flds
open Go Go.RowKit
set_option linter.unusedVariables false
set_option maxRecDepth 1000000

end Go.Proofs.YtndbhjgfaghelaaGreatDoor.Flds

/-
  CONTRACTS of the laws' helpers for slices of fields: a copy (toField, toFieldS). Nothing that was there before is changed.
-/
namespace Go.Proofs.YtndbhjgfaghelaaGreatDoor.Flds
open Go Go.RowKit
set_option linter.unusedVariables false
set_option maxRecDepth 1000000

def Copied (l : List Fld) (w : World) (e : Ending) (w' : World) : Prop := ∃ v, e = .returned v ∧ Own w' w.heap.size v l ∧ Below w.heap.size w w'
/-- .. and the slice is not nil. -/
def Copied' (l : List Fld) (w : World) (e : Ending) (w' : World) : Prop := ∃ v, e = .returned v ∧ Own w' w.heap.size v l ∧ Below w.heap.size w w' ∧ ∃ g cap, v = .slice (some ⟨g, 0, none⟩) l.length cap

end Go.Proofs.YtndbhjgfaghelaaGreatDoor.Flds

/-
  CONTRACT of the laws' comparison of two slices of fields (eqFieldS): where both hold the same fields it returns true; nothing that was there before is changed.
-/
namespace Go.Proofs.YtndbhjgfaghelaaGreatDoor.Flds
open Go Go.RowKit
set_option linter.unusedVariables false
set_option maxRecDepth 1000000

def Yes (w : World) (e : Ending) (w' : World) : Prop := e = .returned (.bool true) ∧ Below w.heap.size w w'
theorem below_drew {B : Nat} {a w : World} (h : Below B a w) : Below B a w.drew := ⟨h.os, h.tape, h.output, h.size, h.block⟩

end Go.Proofs.YtndbhjgfaghelaaGreatDoor.Flds

/-
  CONTRACTS of the laws' helpers for a Response: an argument of that type, opened; its size (szResponse), a copy (toResponse), the comparison of two that hold the same (eqResponse). Nothing that was there before is changed.
-/
namespace Go.Proofs.YtndbhjgfaghelaaGreatDoor.Msg
open Go Go.RowKit
set_option linter.unusedVariables false
set_option maxRecDepth 1000000

abbrev F := Flds.Fld
def FOk (l : List F) : Prop := l.length ≤ maxLen ∧ ∀ f ∈ l, f.1.length ≤ maxLen ∧ f.2.length ≤ maxLen
def Ok_rsp (c : Int) (l : List F) (b : List UInt8) : Prop := (-9223372036854775808 ≤ c ∧ c ≤ 9223372036854775807) ∧ FOk l ∧ b.length ≤ maxLen
theorem wf_range {n : Int} (h : (Lit.int .i64 n).wf = true) : -9223372036854775808 ≤ n ∧ n ≤ 9223372036854775807 := by
  simp [Lit.wf, IntKind.min, IntKind.max, IntKind.signed, IntKind.bits] at h; omega
theorem open_text {H : Type} {enc : TypeId × Value → H} {W : World} {fuel : Nat} {v : Value} {x : DataW H × List MemPlace} (h : DataW.trod enc Tryz.prog W 0 (fun _ => true) true fuel 9 [v] = some x) : ∃ n : List UInt8, v = .string ⟨n.toArray⟩ ∧ n.length ≤ maxLen := by
  obtain ⟨s, rfl, hs⟩ := Flds.trod_text h
  exact ⟨s.data.toList, rfl, by rw [Array.length_toList]; exact hs⟩
theorem cell3_one {W : World} {a b c : Value} {T : TypeId} : (W.alloc (.cells #[a, b, c] T)).cell? ⟨W.heap.size, 0, none⟩ = some a ∧ (W.alloc (.cells #[a, b, c] T)).cell? ⟨W.heap.size, 1, none⟩ = some b ∧ (W.alloc (.cells #[a, b, c] T)).cell? ⟨W.heap.size, 2, none⟩ = some c :=
  ⟨by rw [World.cell?_alloc_new]; rfl, by rw [World.cell?_alloc_new]; rfl, by rw [World.cell?_alloc_new]; rfl⟩

/-- Blocks of the call's own, kept by what follows. -/
theorem kept33 {w w1 : World} {T T' : TypeId} {a b c a' b' c' : Value} (hb : Below ((w.alloc (.cells #[a, b, c] T)).alloc (.cells #[a', b', c'] T')).heap.size ((w.alloc (.cells #[a, b, c] T)).alloc (.cells #[a', b', c'] T')) w1) :
    (w1.cell? ⟨w.heap.size, 0, none⟩ = some a ∧ w1.cell? ⟨w.heap.size, 1, none⟩ = some b ∧ w1.cell? ⟨w.heap.size, 2, none⟩ = some c) ∧ (w1.cell? ⟨w.heap.size + 1, 0, none⟩ = some a' ∧ w1.cell? ⟨w.heap.size + 1, 1, none⟩ = some b' ∧ w1.cell? ⟨w.heap.size + 1, 2, none⟩ = some c') ∧ (∀ j, w1.frozen? ⟨w.heap.size, j, none⟩ = false) ∧ (∀ j, w1.frozen? ⟨w.heap.size + 1, j, none⟩ = false) ∧ Below w.heap.size w w1 := by
  have h1 : Below (w.alloc (.cells #[a, b, c] T)).heap.size (w.alloc (.cells #[a, b, c] T)) w1 := ((Below.refl _ _).alloc (Nat.le_refl _) _).trans (hb.mono (by simp))
  refine ⟨⟨?_, ?_, ?_⟩, ⟨?_, ?_, ?_⟩, fun j => ?_, fun j => ?_, ((Below.refl _ _).alloc (Nat.le_refl _) _).trans (h1.mono (by simp))⟩
  · rw [h1.cell (p := ⟨w.heap.size, 0, none⟩) (by simp), World.cell?_alloc_new]; rfl
  · rw [h1.cell (p := ⟨w.heap.size, 1, none⟩) (by simp), World.cell?_alloc_new]; rfl
  · rw [h1.cell (p := ⟨w.heap.size, 2, none⟩) (by simp), World.cell?_alloc_new]; rfl
  · rw [hb.cell (p := ⟨w.heap.size + 1, 0, none⟩) (by simp), World.cell?_alloc_at _ _ _ _ (by simp)]; rfl
  · rw [hb.cell (p := ⟨w.heap.size + 1, 1, none⟩) (by simp), World.cell?_alloc_at _ _ _ _ (by simp)]; rfl
  · rw [hb.cell (p := ⟨w.heap.size + 1, 2, none⟩) (by simp), World.cell?_alloc_at _ _ _ _ (by simp)]; rfl
  · rw [h1.frozen (p := ⟨w.heap.size, j, none⟩) (by simp)]; simp [go_sem]
  · rw [hb.frozen (p := ⟨w.heap.size + 1, j, none⟩) (by simp)]; simp [go_sem]
theorem kept333 {w w1 : World} {T T' T2 : TypeId} {a b c a' b' c' a2 b2 c2 : Value} (hb : Below (((w.alloc (.cells #[a, b, c] T)).alloc (.cells #[a', b', c'] T')).alloc (.cells #[a2, b2, c2] T2)).heap.size (((w.alloc (.cells #[a, b, c] T)).alloc (.cells #[a', b', c'] T')).alloc (.cells #[a2, b2, c2] T2)) w1) :
    (w1.cell? ⟨w.heap.size, 0, none⟩ = some a ∧ w1.cell? ⟨w.heap.size, 1, none⟩ = some b ∧ w1.cell? ⟨w.heap.size, 2, none⟩ = some c) ∧ (w1.cell? ⟨w.heap.size + 1, 0, none⟩ = some a' ∧ w1.cell? ⟨w.heap.size + 1, 1, none⟩ = some b' ∧ w1.cell? ⟨w.heap.size + 1, 2, none⟩ = some c') ∧ (w1.cell? ⟨w.heap.size + 1 + 1, 0, none⟩ = some a2 ∧ w1.cell? ⟨w.heap.size + 1 + 1, 1, none⟩ = some b2 ∧ w1.cell? ⟨w.heap.size + 1 + 1, 2, none⟩ = some c2) ∧ (∀ j, w1.frozen? ⟨w.heap.size + 1, j, none⟩ = false) ∧ (∀ j, w1.frozen? ⟨w.heap.size + 1 + 1, j, none⟩ = false) ∧ Below w.heap.size w w1 := by
  have h1 : Below ((w.alloc (.cells #[a, b, c] T)).alloc (.cells #[a', b', c'] T')).heap.size ((w.alloc (.cells #[a, b, c] T)).alloc (.cells #[a', b', c'] T')) w1 := ((Below.refl _ _).alloc (Nat.le_refl _) _).trans (hb.mono (by simp))
  obtain ⟨k1, k2, k3, k4, k5⟩ := kept33 h1
  refine ⟨k1, k2, ⟨?_, ?_, ?_⟩, k4, fun j => ?_, k5⟩
  · rw [hb.cell (p := ⟨w.heap.size + 1 + 1, 0, none⟩) (by simp), World.cell?_alloc_at _ _ _ _ (by simp)]; rfl
  · rw [hb.cell (p := ⟨w.heap.size + 1 + 1, 1, none⟩) (by simp), World.cell?_alloc_at _ _ _ _ (by simp)]; rfl
  · rw [hb.cell (p := ⟨w.heap.size + 1 + 1, 2, none⟩) (by simp), World.cell?_alloc_at _ _ _ _ (by simp)]; rfl
  · rw [hb.frozen (p := ⟨w.heap.size + 1 + 1, j, none⟩) (by simp)]; simp [go_sem]

def Copied (c : Int) (l : List F) (b : List UInt8) (w : World) (e : Ending) (w' : World) : Prop := ∃ v, e = .returned (.agg #[.int .i64 c, v, .string ⟨b.toArray⟩]) ∧ Flds.Own w' w.heap.size v l ∧ Below w.heap.size w w'
end Go.Proofs.YtndbhjgfaghelaaGreatDoor.Msg

/-
  PLAIN FACTS: blocks that a call has just laid, one, two or three, read on as they were laid behind whatever only adds.
-/
namespace Go.Proofs.YtndbhjgfaghelaaGreatDoor.Kept
open Go Go.RowKit
set_option linter.unusedVariables false
set_option maxRecDepth 1000000

theorem below_in {w w1 : World} {o : Obj} (h : Below (w.alloc o).heap.size (w.alloc o) w1) : Below w.heap.size w w1 := ((Below.refl _ _).alloc (Nat.le_refl _) _).trans (h.mono (by simp))
theorem one {w w1 : World} {T : TypeId} {a : Array Value} (hb : Below (w.alloc (.cells a T)).heap.size (w.alloc (.cells a T)) w1) :
    (∀ j u, a[j]? = some u → w1.cell? ⟨w.heap.size, j, none⟩ = some u) ∧ ∀ j, w1.frozen? ⟨w.heap.size, j, none⟩ = false := by
  refine ⟨fun j u h => ?_, fun j => ?_⟩
  · rw [hb.cell (p := ⟨w.heap.size, j, none⟩) (by simp), World.cell?_alloc_new]; exact h
  · rw [hb.frozen (p := ⟨w.heap.size, j, none⟩) (by simp)]; simp [go_sem]
theorem two {w w1 : World} {o : Obj} {T : TypeId} {a : Array Value} (hb : Below ((w.alloc o).alloc (.cells a T)).heap.size ((w.alloc o).alloc (.cells a T)) w1) :
    (∀ j u, a[j]? = some u → w1.cell? ⟨w.heap.size + 1, j, none⟩ = some u) ∧ ∀ j, w1.frozen? ⟨w.heap.size + 1, j, none⟩ = false := by
  have h := one hb
  rw [show (w.alloc o).heap.size = w.heap.size + 1 by simp] at h
  exact h
theorem three {w w1 : World} {o o2 : Obj} {T : TypeId} {a : Array Value} (hb : Below (((w.alloc o).alloc o2).alloc (.cells a T)).heap.size (((w.alloc o).alloc o2).alloc (.cells a T)) w1) :
    (∀ j u, a[j]? = some u → w1.cell? ⟨w.heap.size + 1 + 1, j, none⟩ = some u) ∧ ∀ j, w1.frozen? ⟨w.heap.size + 1 + 1, j, none⟩ = false := by
  have h := one hb
  rw [show ((w.alloc o).alloc o2).heap.size = w.heap.size + 1 + 1 by simp] at h
  exact h
end Go.Proofs.YtndbhjgfaghelaaGreatDoor.Kept

/-
  CONTRACTS of the laws' helpers for a Request: an argument of that type, opened; its size (szRequest), a copy (toRequest), the comparison of two that hold the same (eqRequest). Nothing that was there before is changed.
-/
namespace Go.Proofs.YtndbhjgfaghelaaGreatDoor.Msg
open Go Go.RowKit
set_option linter.unusedVariables false
set_option maxRecDepth 1000000

def Ok_req (m h t : List UInt8) (l : List F) : Prop := m.length ≤ maxLen ∧ h.length ≤ maxLen ∧ t.length ≤ maxLen ∧ FOk l

def CopiedQ (m ho t : List UInt8) (l : List F) (w : World) (e : Ending) (w' : World) : Prop := ∃ v, e = .returned (.agg #[.string ⟨m.toArray⟩, .string ⟨ho.toArray⟩, .string ⟨t.toArray⟩, v]) ∧ Flds.Own w' w.heap.size v l ∧ Below w.heap.size w w'
end Go.Proofs.YtndbhjgfaghelaaGreatDoor.Msg

/-
  PLAIN FACTS: a block of cells that the call has laid, read behind what only adds, behind a write into it, and behind a write elsewhere.
-/
namespace Go.Proofs.YtndbhjgfaghelaaGreatDoor.Kept
open Go Go.RowKit
set_option linter.unusedVariables false
set_option maxRecDepth 1000000

/-- The block g holds these values, and may be written. -/
structure Box (W : World) (g : Nat) (xs : List Value) : Prop where
  cell : ∀ j u, xs[j]? = some u → W.cell? ⟨g, j, none⟩ = some u
  frz : ∀ j, W.frozen? ⟨g, j, none⟩ = false
  lt : g < W.heap.size
theorem Box.new {w : World} {T : TypeId} {a : Array Value} : Box (w.alloc (.cells a T)) w.heap.size a.toList :=
  ⟨fun j u h => by rw [World.cell?_alloc_new]; simpa using h, fun j => by simp [go_sem], by simp⟩
theorem Box.below {W W' : World} {g : Nat} {xs : List Value} (h : Box W g xs) (hb : Below W.heap.size W W') : Box W' g xs :=
  ⟨fun j u e => (hb.cell (p := ⟨g, j, none⟩) h.lt).trans (h.cell j u e), fun j => (hb.frozen (p := ⟨g, j, none⟩) h.lt).trans (h.frz j), Nat.lt_of_lt_of_le h.lt hb.size⟩
theorem Box.alloc {W : World} {g : Nat} {xs : List Value} (h : Box W g xs) (o : Obj) : Box (W.alloc o) g xs := h.below ((Below.refl _ _).alloc (Nat.le_refl _) _)
theorem Box.same {W : World} {g k : Nat} {xs : List Value} (h : Box W g xs) (hk : k < xs.length) (v : Value) : Box (W.setCell ⟨g, k, none⟩ v) g (xs.set k v) :=
  ⟨fun j u e => by
    by_cases hj : j = k
    · subst hj
      obtain ⟨u0, hu0⟩ : ∃ u0, xs[j]? = some u0 := ⟨xs[j], by simp [hk]⟩
      rw [World.cell?_setCell_same _ _ _ (h.cell j u0 hu0)]
      simpa [hk] using e
    · rw [World.cell?_setCell_other _ _ _ _ (fun e => hj (by cases e; rfl))]
      exact h.cell j u (by rw [List.getElem?_set_ne (fun e => hj e.symm)] at e; exact e), fun j => by rw [World.frozen?_setCell]; exact h.frz j, by rw [World.size_setCell]; exact h.lt⟩
theorem Box.other {W : World} {g g' k : Nat} {xs : List Value} (h : Box W g xs) (hne : g' ≠ g) (v : Value) : Box (W.setCell ⟨g', k, none⟩ v) g xs :=
  ⟨fun j u e => by rw [World.cell?_setCell_other _ _ _ _ (fun e => hne (by cases e; rfl))]; exact h.cell j u e, fun j => by rw [World.frozen?_setCell]; exact h.frz j, by rw [World.size_setCell]; exact h.lt⟩
end Go.Proofs.YtndbhjgfaghelaaGreatDoor.Kept

/-
  PLAIN FACTS on slices of structs that hold slices: the rows of cells as they stand, beside what each row means (a relation RD of the element).
-/
namespace Go.Proofs.YtndbhjgfaghelaaGreatDoor.Nst
open Go Go.RowKit
set_option linter.unusedVariables false
set_option maxRecDepth 1000000

/-- A row of n cells. -/
structure Row (n : Nat) where
  l : List Value
  h : l.length = n
def cs {n : Nat} (r : Row n) : List Value := r.l
theorem cs_len {n : Nat} (r : Row n) : (cs r).length = n := r.h
def nov (n : Nat) : Row n := ⟨List.replicate n (.bool false), by simp⟩
section
variable {α : Type} {n : Nat} {RD : World → Nat → List Value → α → Prop} {z : α}
/-- The slice v reads as l: its rows mean l's elements. -/
def Holds (n : Nat) (RD : World → Nat → List Value → α → Prop) (z : α) (w : World) (B : Nat) (v : Value) (l : List α) : Prop := ∃ rows : List (Row n), rows.length = l.length ∧ Rec.Holds n cs (nov n) w B v rows ∧ ∀ j, j < l.length → RD w B (rows.getD j (nov n)).l (l.getD j z)
theorem holds_below {w w' : World} {B : Nat} {v : Value} {l : List α} (hR : ∀ {c a}, RD w B c a → RD w' B c a) (h : Holds n RD z w B v l) (hb : Below B w w') : Holds n RD z w' B v l := by
  obtain ⟨rows, h1, h2, h3⟩ := h
  exact ⟨rows, h1, Rec.holds_below h2 hb, fun j hj => hR (h3 j hj)⟩
theorem holds_more {w : World} {B B' : Nat} {v : Value} {l : List α} (hR : ∀ {c a}, RD w B c a → RD w B' c a) (h : Holds n RD z w B v l) (hB : B ≤ B') : Holds n RD z w B' v l := by
  obtain ⟨rows, h1, h2, h3⟩ := h
  exact ⟨rows, h1, Rec.holds_more h2 hB, fun j hj => hR (h3 j hj)⟩
theorem holds_drew {w : World} {B : Nat} {v : Value} {l : List α} (hR : ∀ {c a}, RD w B c a → RD w.drew B c a) (h : Holds n RD z w B v l) : Holds n RD z w.drew B v l := by
  obtain ⟨rows, h1, h2, h3⟩ := h
  exact ⟨rows, h1, h2, fun j hj => hR (h3 j hj)⟩
theorem holds_cases {w : World} {B : Nat} {v : Value} {l : List α} (h : Holds n RD z w B v l) : (l = [] ∧ ∃ a cap, v = .slice a 0 cap) ∨ (0 < l.length ∧ ∃ b off cap, v = .slice (some ⟨b, off, none⟩) l.length cap ∧ b < B ∧ l.length ≤ cap ∧ ∃ rows : List (Row n), rows.length = l.length ∧ Rec.At n cs (nov n) w b off rows ∧ ∀ j, j < l.length → RD w B (rows.getD j (nov n)).l (l.getD j z)) := by
  obtain ⟨rows, h1, h2, h3⟩ := h
  rcases h2 with ⟨rfl, a, cap, rfl⟩ | ⟨h0, b, off, cap, rfl, hb, hc, hA⟩
  · exact Or.inl ⟨List.eq_nil_of_length_eq_zero h1.symm, a, cap, rfl⟩
  · exact Or.inr ⟨by omega, b, off, cap, by rw [h1], hb, by omega, rows, h1, hA, h3⟩
theorem holds_nil (w : World) (B : Nat) (a : Option Addr) (cap : Nat) : Holds n RD z w B (.slice a 0 cap) [] := ⟨[], rfl, Or.inl ⟨rfl, _, _, rfl⟩, fun j hj => absurd hj (Nat.not_lt_zero _)⟩
theorem at_cell {w : World} {b off : Nat} {rows : List (Row n)} (h : Rec.At n cs (nov n) w b off rows) {j i : Nat} (hj : j < rows.length) {c : List Value} {u : Value} (hc : (rows.getD j (nov n)).l = c) (hu : c[i]? = some u) : w.cell? ⟨b, off + j * n + i, none⟩ = some u :=
  h j hj i u (by show (rows.getD j (nov n)).l[i]? = some u; rw [hc]; exact hu)
theorem own_some {w : World} {B g cap m : Nat} {T : TypeId} {rows : List (Row n)} (hn : 0 < n) (h : w.ownsRow B T n (.slice (some ⟨g, 0, none⟩) m cap) m (Rec.flat cs rows)) {j i : Nat} (hj : j < m) (hi : i < n) : ∃ u, w.cell? ⟨g, j * n + i, none⟩ = some u := by
  have hl : i < (cs (rows.getD j (nov n))).length := by rw [cs_len]; exact hi
  exact ⟨_, Rec.own_cell (z := nov n) cs_len hn h hj (List.getElem?_eq_getElem hl)⟩
theorem get_same {rows : List (Row n)} {k : Nat} (h : k < rows.length) (r : Row n) : (rows.set k r).getD k (nov n) = r := by simp [List.getD, h]
theorem get_ne {rows : List (Row n)} {j k : Nat} (h : j ≠ k) (r : Row n) : (rows.set k r).getD j (nov n) = rows.getD j (nov n) := by simp [List.getD, List.getElem?_set_ne (fun e => h e.symm)]
end
end Go.Proofs.YtndbhjgfaghelaaGreatDoor.Nst

/-
  CONTRACTS of the laws' helpers for slices of Version (written by rec.py): an argument of that type, opened; its size (szVersionS). Nothing that was there before is changed.
-/
namespace Go.Proofs.YtndbhjgfaghelaaGreatDoor.Ver
open Go Go.RowKit
set_option linter.unusedVariables false
set_option maxRecDepth 1000000

theorem wf_range {n : Int} (h : (Lit.int .i64 n).wf = true) : -9223372036854775808 ≤ n ∧ n ≤ 9223372036854775807 := by
  simp [Lit.wf, IntKind.min, IntKind.max, IntKind.signed, IntKind.bits] at h; omega

set_option maxRecDepth 1000000 in
/-- An argument of type []laws.Version, opened. -/
theorem open_arg {H : Type} {enc : TypeId × Value → H} {W : World} {base : Nat} {v : Value} {d : DataW H} {p : List MemPlace}
    (hok : Value.okWide Tryz.prog W .any base 144 v) (h : DataW.Trod enc Tryz.prog W 0 (fun _ => true) true 144 v d p) :
    ∃ l : List T, Holds W W.heap.size v l ∧ l.length ≤ maxLen ∧ (∀ f ∈ l, Ok f) := by
  obtain ⟨a0, len, cap, rfl⟩ := WideShapes.okWide_slice Tryz.underlying144 hok
  obtain ⟨fuel, hf⟩ := h
  have celi : Tryz.prog.cellsOf 3 = 1 := by kernel_rfl
  have cels : Tryz.prog.cellsOf 9 = 1 := by kernel_rfl
  have celb : Tryz.prog.cellsOf 4 = 1 := by kernel_rfl
  have ce : Tryz.prog.cellsOf 215 = 3 := by kernel_rfl
  rcases Deep.open_slice Tryz.underlying144 hf with ⟨hcs, hx⟩ | ⟨a, len', cap', m, n, D, Pl, hcs, _, hl, hm, hmm, hx, hall⟩
  · simp [Value.cells] at hcs
    obtain ⟨rfl, rfl, rfl⟩ := hcs
    exact ⟨[], Or.inl ⟨rfl, _, _, rfl⟩, Nat.zero_le _, fun f hf => by cases hf⟩
  · simp [Value.cells] at hcs
    obtain ⟨rfl, rfl, rfl⟩ := hcs
    simp only [if_true] at hmm
    subst hmm
    have each : ∀ i, i < m → ∃ f : T, (∀ k u, (cs f)[k]? = some u → W.cell? (a.add (i * 3 + k)) = some u) ∧ Ok f := fun i hi => by
      obtain ⟨cs', h1, h2⟩ := hall i hi
      rw [ce] at h1
      obtain ⟨_, hlen, hcell⟩ := World.cells?_some h1
      obtain ⟨xs, k, hk, hxy, _, hxl, hf⟩ := DataW.trod_struct Tryz.underlying215 h2
      match xs, hxl, cs', hlen with
      | [y0, y1, y2], _, [v0, v1, v2], _ =>
      have g0 := hf 0 _ rfl
      have g1 := hf 1 _ rfl
      have g2 := hf 2 _ rfl
      simp [celi, cels, celb] at g0 g1 g2
      have e0 := hcell 0 (by omega)
      have e1 := hcell 1 (by omega)
      have e2 := hcell 2 (by omega)
      rw [Deep.add_add] at e0 e1 e2
      obtain ⟨s0, z0, _, o0⟩ := DataW.trod_int Tryz.underlying3 g0
      obtain rfl : v0 = _ := by simpa using z0
      obtain ⟨s1, z1, _, o1⟩ := DataW.trod_string Tryz.underlying9 g1
      obtain rfl : v1 = _ := by simpa using z1
      obtain ⟨s2, z2, _⟩ := DataW.trod_bool Tryz.underlying4 g2
      obtain rfl : v2 = _ := by simpa using z2
      refine ⟨(s0, s1.data.toList, s2), fun k u hu => ?_, ⟨(wf_range o0), (by show s1.data.toList.length ≤ maxLen; rw [Array.length_toList]; exact o1)⟩⟩
      match k, hu with
      | 0, hu => exact e0.trans hu
      | 1, hu => exact e1.trans hu
      | 2, hu => exact e2.trans hu
      | k + 3, hu => simp [cs] at hu
    obtain ⟨G, hG⟩ := Deep.choose_lt (α := T) each
    have hln : ((List.range len).map G).length = len := by simp
    have hget : ∀ j, j < len → ((List.range len).map G).getD j nov = G j := fun j hj => by simp [List.getD, hj]
    refine ⟨(List.range len).map G, ?_, by rw [hln]; omega, ?_⟩
    · by_cases hl0 : len = 0
      · subst hl0; exact Or.inl ⟨by simp, _, _, rfl⟩
      · obtain ⟨b, off, spot⟩ := a
        have hspot : spot = none := by simpa [Addr.add] using World.cell?_spot ((hG 0 (by omega)).1 0 _ rfl)
        subst hspot
        have hc : At W b off ((List.range len).map G) := fun j hj i u hu => by
          rw [hln] at hj
          rw [hget j hj] at hu
          rw [Nat.add_assoc, ← WideShapes.add_plain]
          exact (hG j (by omega)).1 i u hu
        exact Or.inr ⟨by omega, b, off, _, by rw [hln], at_lt hc (by omega), by omega, hc⟩
    · intro f hf
      obtain ⟨i, hi, rfl⟩ := List.mem_map.1 hf
      have hi' := List.mem_range.1 hi
      exact (hG i (by omega)).2

/-- What szVersionS answers: not below 0 just where the size is at most what is left. -/
def Sized (l : List T) (left : Int) (w : World) (e : Ending) (w' : World) : Prop := ∃ z : Int, e = .returned (.int .i64 z) ∧ (z < 0 ∨ (0 ≤ z ∧ z + total l = left)) ∧ Below w.heap.size w w'

set_option maxHeartbeats 1000000 in
theorem size_one (f : T) (left : Int) (w : World) (hok : Ok f) (h0 : 0 ≤ left) (h3 : left ≤ 1048576) :
    Calls Tryz.prog 212 #[fv f, .int .i64 left] w fun e w' => ∃ z : Int, e = .returned (.int .i64 z) ∧ (z < 0 ∨ (0 ≤ z ∧ z + ((f.2.1.length : Int)) = left)) ∧ Below w.heap.size w w' := by
  obtain ⟨x, y, u⟩ := f
  unfold Ok maxLen at hok
  dsimp only at hok
  unfold fv
  dsimp only
  have hsy : (⟨y.toArray⟩ : ByteArray).size = y.length := by simp [ByteArray.size]
  have HB := Lib.hid ((Below.refl w.heap.size w).alloc (Nat.le_refl _) (.cells #[.int .i64 (x), .string ⟨(y).toArray⟩, .bool (u)] 215))
  by_cases hn0 : left - (y.length : Int) < 0
  · go_enter Tryz.func212, Tryz.ntmps212
    go_wp2
    go_ret
    exact ⟨_, rfl, Or.inl (by omega), HB.out⟩
  · go_enter Tryz.func212, Tryz.ntmps212
    go_wp2
    go_ret
    exact ⟨_, rfl, Or.inr ⟨by omega, by omega⟩, HB.out⟩
theorem size_two (x : Int) (y : List UInt8) (u : Bool) (left : Int) (w : World) (hok : Ok (x, y, u)) (h0 : 0 ≤ left) (h3 : left ≤ 1048576) :
    Calls Tryz.prog 212 #[.agg #[.int .i64 (x), .string ⟨(y).toArray⟩, .bool (u)], .int .i64 left] w fun e w' => ∃ z : Int, e = .returned (.int .i64 z) ∧ (z < 0 ∨ (0 ≤ z ∧ z + ((y.length : Nat) : Int) = left)) ∧ Below w.heap.size w w' := by
  refine (size_one (x, y, u) left w hok h0 h3).mono ?_
  rintro e w' ⟨z, rfl, hz, hb⟩
  dsimp only at hz
  exact ⟨z, rfl, by omega, hb⟩

theorem size_nil (a : Option Addr) (cap : Nat) (left : Int) (w : World) (h0 : 0 ≤ left) (h3 : left ≤ 1048576) :
    Calls Tryz.prog 160 #[.slice a 0 cap, .int .i64 left] w (Sized [] left w) := by
  go_enter Tryz.func160, Tryz.ntmps160
  go_wp2
  go_loop [1, 5] (fun l i => i = .int .i64 0 ∧ l = .int .i64 left) (fun _ i => 0)
  case atStart => exact ⟨rfl, by simp⟩
  case round =>
    obtain ⟨rfl, rfl⟩ := hrel
    go_wp2
    go_ret
    exact ⟨_, rfl, Or.inr ⟨by omega, by show left + ((0 : Nat) : Int) = left; simp⟩, Below.refl _ _⟩

def pre (l : List T) (k : Nat) : Nat := Rec.pre wt l k
set_option maxHeartbeats 1000000 in
theorem size_some (b off cap : Nat) (l : List T) (left : Int) (w : World) (hc : At w b off l) (h0 : 0 < l.length) (hl : l.length ≤ maxLen) (hx : ∀ f ∈ l, Ok f) (hl0 : 0 ≤ left) (hl3 : left ≤ 1048576) :
    Calls Tryz.prog 160 #[.slice (some ⟨b, off, none⟩) l.length cap, .int .i64 left] w (Sized l left w) := by
  have hbl := at_lt hc h0
  have HC := Lib.hid hc
  have HX := Lib.hid hx
  unfold maxLen at hl
  clear hc hx
  by_cases hn : left - (l.length : Int) < 0
  · go_enter Tryz.func160, Tryz.ntmps160
    go_wp2
    go_ret
    exact ⟨_, rfl, Or.inl (by omega), Below.refl _ _⟩
  · go_enter Tryz.func160, Tryz.ntmps160
    go_wp2
    go_loopw [1, 5] (fun q i wr => ∃ k : Nat, k ≤ l.length ∧ i = .int .i64 (k : Int) ∧ 0 ≤ left - (l.length : Int) - (pre l k : Int) ∧ q = .int .i64 (left - (l.length : Int) - (pre l k : Int)) ∧ Below w.heap.size w wr) (fun _ i _ => l.length - (intOf i).toNat)
    case atStart => exact ⟨0, Nat.zero_le _, rfl, by unfold pre; rw [Rec.pre_zero]; omega, by unfold pre; rw [Rec.pre_zero]; simp, Below.refl _ _⟩
    case round =>
      obtain ⟨k, hk, rfl, hp, rfl, hb⟩ := hrel
      by_cases hlt : k < l.length
      · obtain ⟨c0, c1, c2⟩ := at_cells (at_below HC.out hb hbl) hlt
        have HX1 := Lib.hid (HX.out _ (Rec.getD_mem (z := nov) hlt))
        have HP : Hid (pre l (k + 1) = pre l k + wt (l.getD k nov)) := Lib.hid (Rec.pre_more (z := nov) wt hlt)
        generalize hy : l.getD k nov = f at c0 c1 c2 HP HX1
        clear hy
        generalize hr : left - (l.length : Int) - (pre l k : Int) = r at hp ⊢
        have hr' := Lib.hid hr
        clear hr
        have HR : Hid (r ≤ 1048576) := Lib.hid (by have := hr'.out; omega)
        have HB := Lib.hid hb
        clear hb
        obtain ⟨x, y, u⟩ := f
        dsimp only at c0 c1 c2
        go_wp2_with (go_at_call 212; refine (size_one (x, y, u) r wr HX1.out hp HR.out).mono ?_; rintro e w' ⟨z, rfl, hz, hb1⟩; have HB1 := Lib.hid (Base.then_below HB.out (hb1.mono (Nat.le_refl _))); clear hb1)
        · go_ret
          exact ⟨_, rfl, Or.inl (by decide), HB1.out⟩
        · have hr2 := hr'.out
          have hz' : z + ((y.length : Int)) = r := by omega
          have hw : wt (x, y, u) = y.length := rfl
          have HW := Lib.hid hw
          clear hw
          go_roundw
          case rel => exact ⟨k + 1, by omega, by go_num, by rw [HP.out, HW.out]; omega, by rw [HP.out, HW.out]; congr 1; omega, HB1.out⟩
          case measure => simp [intOf]; omega
      · have HT : Hid (total l = pre l k + l.length) := Lib.hid (Rec.pre_all wt (l := l) (k := k) (by omega))
        go_wp2
        go_ret
        exact ⟨_, rfl, Or.inr ⟨hp, by rw [HT.out]; omega⟩, hb⟩

theorem size_any (v : Value) (B : Nat) (l : List T) (left : Int) (w : World) (h : Holds w B v l) (hl : l.length ≤ maxLen) (hx : ∀ f ∈ l, Ok f) (h0 : 0 ≤ left) (h3 : left ≤ 1048576) :
    Calls Tryz.prog 160 #[v, .int .i64 left] w (Sized l left w) := by
  rcases h with ⟨rfl, a, cap, rfl⟩ | ⟨hp, b, off, cap, rfl, _, _, hc⟩
  · exact size_nil a cap left w h0 h3
  · exact size_some b off cap l left w hc hp hl hx h0 h3

set_option maxRecDepth 1000000 in
/-- An argument of type laws.Version, opened. -/
theorem open_val {H : Type} {enc : TypeId × Value → H} {W : World} {base : Nat} {v : Value} {d : DataW H} {p : List MemPlace}
    (hok : Value.okWide Tryz.prog W .any base 215 v) (h : DataW.Trod enc Tryz.prog W 0 (fun _ => true) true 215 v d p) : ∃ f : T, v = fv f ∧ Ok f := by
  obtain ⟨cs', rfl, hsz⟩ := WideShapes.okWide_struct Tryz.underlying215 hok
  obtain ⟨fuel, hf⟩ := h
  have celi : Tryz.prog.cellsOf 3 = 1 := by kernel_rfl
  have cels : Tryz.prog.cellsOf 9 = 1 := by kernel_rfl
  have celb : Tryz.prog.cellsOf 4 = 1 := by kernel_rfl
  have ce : Tryz.prog.cellsOf 215 = 3 := by kernel_rfl
  obtain ⟨l⟩ := cs'
  obtain ⟨xs, k, hk, hxy, _, hxl, hg⟩ := DataW.trod_struct Tryz.underlying215 hf
  match l, hsz.trans ce, xs, hxl with
  | [v0, v1, v2], _, [y0, y1, y2], _ =>
    have g0 := hg 0 _ rfl
    have g1 := hg 1 _ rfl
    have g2 := hg 2 _ rfl
    simp [Value.cells, celi, cels, celb] at g0 g1 g2
    obtain ⟨s0, z0, _, o0⟩ := DataW.trod_int Tryz.underlying3 g0
    obtain rfl : v0 = _ := by simpa using z0
    obtain ⟨s1, z1, _, o1⟩ := DataW.trod_string Tryz.underlying9 g1
    obtain rfl : v1 = _ := by simpa using z1
    obtain ⟨s2, z2, _⟩ := DataW.trod_bool Tryz.underlying4 g2
    obtain rfl : v2 = _ := by simpa using z2
    exact ⟨(s0, s1.data.toList, s2), by simp [fv], ⟨(wf_range o0), (by show s1.data.toList.length ≤ maxLen; rw [Array.length_toList]; exact o1)⟩⟩
end Go.Proofs.YtndbhjgfaghelaaGreatDoor.Ver
