/-
  CONTRACTS AND PLAIN FACTS, several texts in one; each says in its own words what it proves.
-/
import Derived.Test.YtjjelbijbbnmcaaGreatDoorRows
import Derived.WalkKit
import Derived.ProofKit
import Derived.OpenShut
import Derived.Lib.Hide
import Derived.Below
import Derived.ChangeSame
import Derived.Sort.Grow
import Derived.Deep.Draws
import Derived.ChangeSlices
import Derived.OwnWalk
import Derived.Laws.OwnMore
import Derived.Laws.AppendOwn
import Derived.LoopTactic
import Derived.Outline

/-
  SMALL FACTS that the proofs of this seat share: what a new world keeps of an older one, and the last step of a law's row where the world is known to be as it was below its old end.
-/
namespace Go.Proofs.YtjjelbijbbnmcaaGreatDoor.Base
open Go Go.RowKit Go.WideShapes Go.ChangeShapes
set_option linter.unusedVariables false
set_option maxRecDepth 1000000

/-- Every old cell and every old mark reads as before. -/
theorem bcell {W w1 : World} (hb : Below W.heap.size W w1) : (∀ b o, b < W.heap.size → w1.cell? ⟨b, o, none⟩ = W.cell? ⟨b, o, none⟩) ∧ (∀ b o, b < W.heap.size → w1.frozen? ⟨b, o, none⟩ = W.frozen? ⟨b, o, none⟩) :=
  ⟨fun b o h => hb.cell (p := ⟨b, o, none⟩) h, fun b o h => hb.frozen (p := ⟨b, o, none⟩) h⟩
/-- Two steps, each of which leaves what was before it. -/
theorem then_below {a b c : World} (h : Below a.heap.size a b) (k : Below b.heap.size b c) : Below a.heap.size a c := h.trans (k.mono h.size)
/-- A package-level variable keeps its cells. -/
theorem var_below {P : Program} {W w1 : World} {name : String} {cs : Array Value} (h : W.var? P name = some cs) (hb : Below W.heap.size W w1) : w1.var? P name = some cs := by
  unfold World.var? at *
  cases hg : P.globalNamed name with
  | none => rw [hg] at h; simp at h
  | some g =>
    rw [hg] at h
    simp only [Option.bind_some] at h ⊢
    have hlt : g < W.heap.size := by
      rcases Nat.lt_or_ge g W.heap.size with h' | h'
      · exact h'
      · rw [Array.getElem?_eq_none h'] at h; simp at h
    rw [hb.block g hlt]
    exact h
/-- Draws, and then new blocks at the end. -/
theorem below_grow_drewN (w : World) (k : Nat) (os : Array Obj) : Below w.heap.size w (Sort.grow (w.drewN k) os) := by
  refine ⟨rfl, rfl, rfl, ?_, fun i hi => ?_⟩
  · show w.heap.size ≤ (w.heap ++ os).size; rw [Array.size_append]; omega
  · show (w.heap ++ os)[i]? = w.heap[i]?; rw [Array.getElem?_append_left hi]

section
variable {H : Type} {enc : TypeId × Value → H} {P : Program}
/-- The row's last step, where of the world behind the call only 'Below' is known. -/
theorem post_below {f : Func} {s : ChangeSpec} {apart fresh handsOn again : Bool} {W W' : World} {args : Array Value} {v : Value} {ds gs : List (DataW H)} {before pa pv : List MemPlace}
    (hW : DataW.Whole enc P f.params.toList s.vars apart W args.toList ds gs before)
    (hres : ∀ (b : Nat) (sp : Nat → Bool) (hd : Bool), DataW.TrodAll enc P W' b sp hd f.resultTypes.toList (v.resultList f.resultTypes.size) (s.fn H (ds ++ gs)).results [])
    (hargs : ∀ sp : Nat → Bool, (∀ p ∈ before, sp p.block = true) → DataW.TrodAll enc P W' 0 sp true f.params.toList args.toList (s.fn H (ds ++ gs)).args pa)
    (hvars : ∀ sp : Nat → Bool, (∀ p ∈ before, sp p.block = true) → DataW.TrodVars enc P W' sp s.vars (s.fn H (ds ++ gs)).vars pv)
    (hps : before = pa ++ pv) (hb : Below W.heap.size W W')
    (hok : ∀ (j : Nat) (t : TypeId) (r : Value), f.resultTypes[j]? = some t → (v.resultList f.resultTypes.size)[j]? = some r → Value.okWide P W' .any 0 t r) :
    s.post enc P f apart fresh handsOn again W args v W' := by
  have hlt : ∀ p ∈ before, p.block < W.heap.size := fun p hp => hW.lt p hp
  have hold : ∀ p ∈ before, (fun b => decide (b < W.heap.size)) p.block = true := fun p hp => by simpa using hlt p hp
  refine ⟨ds, gs, before, [], pa, pv, hW, hres _ _ _, hargs _ hold, hvars _ hold, World.keptBut_mono (fun p hp => ⟨hp, ?_⟩) (hb.frame (· ∈ before)), fun _ => ?_⟩
  · rw [hps, List.mem_append] at hp
    exact Or.inr hp
  · obtain ⟨_, _, _, _, _, hz, hn⟩ := hW
    refine ⟨hok, _, _, ([] ++ pa) ++ pv, ⟨[] ++ pa, pv, trodAll_append (hargs _ (fun _ _ => rfl)) (hres _ _ _), hvars _ (fun _ _ => rfl), rfl, ?_, ?_⟩, ?_⟩
    · intro b off hp
      have hin : MemPlace.cell b off ∈ before := by rw [hps]; simpa using hp
      rw [hb.frozen (hlt _ hin)]
      exact hz b off hin
    · intro ha
      have := hn ha
      rw [hps] at this
      simpa using this
    · intro p hp _
      rw [hps]
      simpa using hp
end
end Go.Proofs.YtjjelbijbbnmcaaGreatDoor.Base

/-
  PLAIN FACTS on slices of fields (a name and a value): what a slice holds, how that is kept, and how a slice that the call itself has built is such a one.
-/
namespace Go.Proofs.YtjjelbijbbnmcaaGreatDoor.Flds
open Go Go.RowKit
set_option linter.unusedVariables false
set_option maxRecDepth 1000000

theorem info_fld : (Tryz.prog.info? 69).map (fun i => (i.zero, i.size, i.bytes)) = some (some (.agg #[.string ⟨#[]⟩, .string ⟨#[]⟩]), 2, 32) := by kernel_rfl

abbrev Fld : Type := List UInt8 × List UInt8
def sv (x : List UInt8) : Value := .string ⟨x.toArray⟩
def fv (f : Fld) : Value := .agg #[sv f.1, sv f.2]
def fcs (l : List Fld) : List Value := l.flatMap (fun f => [sv f.1, sv f.2])
def nofld : Fld := ([], [])
theorem fcs_len (l : List Fld) : (fcs l).length = l.length * 2 := by
  unfold fcs
  induction l with
  | nil => rfl
  | cons a r ih => rw [List.flatMap_cons, List.length_append, ih]; simp; omega
theorem fcs_more (l : List Fld) (f : Fld) : fcs (l ++ [f]) = fcs l ++ [sv f.1, sv f.2] := by unfold fcs; simp
theorem fcs_at {l : List Fld} {j : Nat} (h : j < l.length) : (fcs l)[j * 2]? = some (sv (l.getD j nofld).1) ∧ (fcs l)[j * 2 + 1]? = some (sv (l.getD j nofld).2) := by
  induction l generalizing j with
  | nil => simp at h
  | cons a r ih =>
    cases j with
    | zero => exact ⟨rfl, rfl⟩
    | succ j =>
      have h' := ih (j := j) (by simpa using h)
      have e1 : (j + 1) * 2 = j * 2 + 1 + 1 := by omega
      rw [e1]
      show (sv a.1 :: sv a.2 :: fcs r)[_]? = _ ∧ (sv a.1 :: sv a.2 :: fcs r)[_]? = _
      simpa using h'
theorem fcs_one (l : List Fld) : ∀ u ∈ fcs l, u.oneCell' = true := by
  intro u hu
  obtain ⟨f, _, hf⟩ := List.mem_flatMap.1 hu
  simp at hf
  rcases hf with rfl | rfl <;> rfl
theorem two_one (f : Fld) : ∀ u ∈ [sv f.1, sv f.2], u.oneCell' = true := by
  intro u hu; simp at hu; rcases hu with rfl | rfl <;> rfl

/-- The cells from (b, off) on are these fields. -/
def At (w : World) (b off : Nat) (l : List Fld) : Prop := ∀ j, j < l.length → w.cell? ⟨b, off + j * 2, none⟩ = some (sv (l.getD j nofld).1) ∧ w.cell? ⟨b, off + j * 2 + 1, none⟩ = some (sv (l.getD j nofld).2)
/-- The slice v reads as the fields l; its cells lie below block B. -/
def Holds (w : World) (B : Nat) (v : Value) (l : List Fld) : Prop := (l = [] ∧ ∃ a cap, v = .slice a 0 cap) ∨ (0 < l.length ∧ ∃ b off cap, v = .slice (some ⟨b, off, none⟩) l.length cap ∧ b < B ∧ l.length ≤ cap ∧ At w b off l)

theorem lt_of_cell {w : World} {b o : Nat} {u : Value} (h : w.cell? ⟨b, o, none⟩ = some u) : b < w.heap.size := by
  rcases Nat.lt_or_ge b w.heap.size with h' | h'
  · exact h'
  · simp [World.cell?, Array.getElem?_eq_none h'] at h
theorem at_lt {w : World} {b off : Nat} {l : List Fld} (h : At w b off l) (h0 : 0 < l.length) : b < w.heap.size := lt_of_cell (h 0 h0).1
theorem at_below {w w' : World} {B b off : Nat} {l : List Fld} (h : At w b off l) (hb : Below B w w') (hlt : b < B) : At w' b off l := fun j hj => by
  rw [hb.cell (p := ⟨b, off + j * 2, none⟩) hlt, hb.cell (p := ⟨b, off + j * 2 + 1, none⟩) hlt]; exact h j hj
theorem holds_more {w : World} {B B' : Nat} {v : Value} {l : List Fld} (h : Holds w B v l) (hB : B ≤ B') : Holds w B' v l := by
  rcases h with h | ⟨h0, b, off, cap, rfl, h2, hc, h1⟩
  · exact Or.inl h
  · exact Or.inr ⟨h0, b, off, cap, rfl, by omega, hc, h1⟩
theorem holds_below {w w' : World} {B : Nat} {v : Value} {l : List Fld} (h : Holds w B v l) (hb : Below B w w') : Holds w' B v l := by
  rcases h with h | ⟨h0, b, off, cap, rfl, hB, hc, h1⟩
  · exact Or.inl h
  · exact Or.inr ⟨h0, b, off, cap, rfl, hB, hc, at_below h1 hb hB⟩
abbrev Own (w : World) (B : Nat) (v : Value) (l : List Fld) : Prop := w.ownsRow B 69 2 v l.length (fcs l)
theorem own_len {w : World} {B : Nat} {v : Value} {l : List Fld} {n : Nat} (h : w.ownsRow B 69 2 v n (fcs l)) : n = l.length := by
  have := h.1; rw [fcs_len] at this; omega
theorem own_cell {w : World} {B g cap : Nat} {l : List Fld} {n : Nat} (h : w.ownsRow B 69 2 (.slice (some ⟨g, 0, none⟩) n cap) n (fcs l)) {j : Nat} (hj : j < n) :
    w.cell? ⟨g, j * 2, none⟩ = some (sv (l.getD j nofld).1) ∧ w.cell? ⟨g, j * 2 + 1, none⟩ = some (sv (l.getD j nofld).2) := by
  have hn := own_len h
  have hf := fcs_at (l := l) (j := j) (by omega)
  have hc := h.cells (g := g) rfl
  have h1 := hc _ _ hf.1
  have h2 := hc _ _ hf.2
  simp only [WideShapes.add_plain, Nat.zero_add] at h1 h2
  exact ⟨h1, h2⟩
theorem own_holds {w : World} {B : Nat} {v : Value} {l : List Fld} (h : Own w B v l) : Holds w w.heap.size v l := by
  have h' := h
  obtain ⟨hl, hc⟩ := h
  rcases hc with ⟨rfl, h0⟩ | ⟨g, cap, cur, rfl, hb, hg, hn, hcap, hs, ht⟩
  · exact Or.inl ⟨List.eq_nil_of_length_eq_zero h0, _, _, rfl⟩
  · by_cases h0 : l = []
    · subst h0; exact Or.inl ⟨rfl, _, _, rfl⟩
    · refine Or.inr ⟨List.length_pos_iff.2 h0, g, 0, cap, rfl, (h'.lt g rfl).2, hn, fun j hj => ?_⟩
      rw [Nat.zero_add]; exact own_cell h' hj
theorem own_below {w w' : World} {B : Nat} {v : Value} {l : List Fld} (h : Own w B v l) (hb : Below w.heap.size w w') : Own w' B v l := by
  obtain ⟨hl, hc⟩ := h
  refine ⟨hl, ?_⟩
  rcases hc with h0 | ⟨g, cap, cur, rfl, h1, h2, h3⟩
  · exact Or.inl h0
  · have hlt : g < w.heap.size := by
      rcases Nat.lt_or_ge g w.heap.size with h' | h'
      · exact h'
      · rw [Array.getElem?_eq_none h'] at h2; cases h2
    exact Or.inr ⟨g, cap, cur, rfl, h1, by rw [hb.block g hlt]; exact h2, h3⟩
theorem own_mono {w : World} {B B' : Nat} {v : Value} {l : List Fld} (h : Own w B v l) (hB : B' ≤ B) : Own w B' v l := by
  obtain ⟨hl, hc⟩ := h
  refine ⟨hl, ?_⟩
  rcases hc with h0 | ⟨g, cap, cur, rfl, h1, h2, h3⟩
  · exact Or.inl h0
  · exact Or.inr ⟨g, cap, cur, rfl, by omega, h2, h3⟩
theorem news_two (w : World) (x y : Value) (T : TypeId) : ∀ j u, [x, y][j]? = some u → (w.alloc (.cells #[x, y] T)).cell? ((⟨w.heap.size, 0, none⟩ : Addr).add j) = some u := by
  intro j u hj
  rw [WideShapes.add_plain, Nat.zero_add, World.cell?_alloc_new]
  simpa using hj
/-- One more field behind a slice that the call has built. -/
theorem push_own {B : Nat} {a w w1 : World} {v v' : Value} {l : List Fld} {f : Fld} {o : Obj} (hown : Own w B v l) (hb : Below a.heap.size a w) (hB : a.heap.size ≤ B)
    (h' : w1.ownsRow B 69 2 v' (l.length + 1) (fcs l ++ [sv f.1, sv f.2])) (hg : (w.alloc o).grownBy w1 v.ownBlock) :
    Own w1 B v' (l ++ [f]) ∧ Below a.heap.size a w1 := by
  refine ⟨by show w1.ownsRow B 69 2 v' (l ++ [f]).length (fcs (l ++ [f])); rw [List.length_append, fcs_more]; exact h', (hb.alloc hb.size o).grown hg (by have := hb.size; simp; omega) (fun k e => Nat.le_trans hB (hown.lt k e).1)⟩
theorem own_lit_nil (w : World) : Own (w.alloc (.cells #[] 69)) w.heap.size (.slice (some ⟨w.heap.size, 0, none⟩) 0 0) [] := World.ownsRow_lit w #[] 0 (Nat.le_refl _) (by decide) rfl
end Go.Proofs.YtjjelbijbbnmcaaGreatDoor.Flds

/-
  PLAIN FACTS on the size of a list of fields, and on a list that is filled from the left.
-/
namespace Go.Proofs.YtjjelbijbbnmcaaGreatDoor.Flds
open Go Go.RowKit
set_option linter.unusedVariables false
set_option maxRecDepth 1000000

def wt (f : Fld) : Nat := f.1.length + f.2.length
def total (l : List Fld) : Nat := (l.map wt).sum + l.length
theorem total_nil : total [] = 0 := rfl
def pre (l : List Fld) (k : Nat) : Nat := ((l.take k).map wt).sum
theorem pre_zero (l : List Fld) : pre l 0 = 0 := by unfold pre; simp
theorem pre_more {l : List Fld} {k : Nat} (h : k < l.length) : pre l (k + 1) = pre l k + ((l.getD k nofld).1.length + (l.getD k nofld).2.length) := by
  unfold pre; rw [List.take_succ_eq_append_getElem h, List.map_append, List.sum_append]; simp [List.getD, h, wt]
theorem pre_all {l : List Fld} {k : Nat} (h : k = l.length) : total l = pre l k + l.length := by unfold pre total; subst h; simp

def part (l : List Fld) (k : Nat) : List Fld := l.take k ++ List.replicate (l.length - k) nofld
theorem part_len (l : List Fld) {k : Nat} (h : k ≤ l.length) : (part l k).length = l.length := by
  unfold part; rw [List.length_append, List.length_take, List.length_replicate]; omega
theorem part_zero (l : List Fld) : part l 0 = List.replicate l.length nofld := by unfold part; simp
theorem part_all (l : List Fld) : part l l.length = l := by unfold part; simp
theorem part_more {l : List Fld} {k : Nat} (h : k < l.length) : (part l k).set k (l.getD k nofld) = part l (k + 1) := by
  unfold part
  rw [List.set_append_right _ _ (by rw [List.length_take]; omega), List.length_take, show k - min k l.length = 0 by omega,
    show l.length - k = (l.length - (k + 1)) + 1 by omega, List.replicate_succ, List.set_cons_zero, List.take_succ_eq_append_getElem h, List.append_assoc]
  simp [List.getD, h]
/-- Two cells of a field are set one behind the other. -/
theorem fcs_set (l : List Fld) (k : Nat) (f : Fld) : ((fcs l).set (k * 2) (sv f.1)).set (k * 2 + 1) (sv f.2) = fcs (l.set k f) := by
  induction l generalizing k with
  | nil => simp [fcs]
  | cons a r ih =>
    have e0 : ∀ (x : Fld) (q : List Fld), fcs (x :: q) = sv x.1 :: sv x.2 :: fcs q := fun x q => rfl
    cases k with
    | zero => rfl
    | succ k =>
      rw [show (k + 1) * 2 = k * 2 + 1 + 1 by omega, List.set_cons_succ, e0, e0, List.set_cons_succ, List.set_cons_succ, List.set_cons_succ, List.set_cons_succ, ih]
theorem fcs_rep (n : Nat) : fcs (List.replicate n nofld) = List.replicate (n * 2) (sv []) := by
  induction n with
  | zero => rfl
  | succ n ih =>
    rw [List.replicate_succ, show (n + 1) * 2 = n * 2 + 1 + 1 by omega, List.replicate_succ, List.replicate_succ, ← ih]
    rfl
theorem made_part (l : List Fld) : (madeCells (Value.agg #[.string ⟨#[]⟩, .string ⟨#[]⟩]).cells (l.length * 2)).toList = fcs (part l 0) := by
  rw [part_zero, fcs_rep, show (Value.agg #[.string ⟨#[]⟩, .string ⟨#[]⟩]).cells = #[sv [], sv []] from rfl]
  have e : ∀ i : Nat, (#[sv [], sv []] : Array Value)[i % 2]! = sv [] := by
    intro i; rcases Nat.mod_two_eq_zero_or_one i with h | h <;> rw [h] <;> rfl
  unfold madeCells
  rw [Array.toList_map, List.eq_replicate_iff]
  refine ⟨by simp, fun b hb => ?_⟩
  obtain ⟨i, _, rfl⟩ := List.mem_map.1 hb
  exact e i
/-- What the call has built is kept by what only adds. -/
theorem row_below {w w' : World} {B n : Nat} {T : TypeId} {sz : Nat} {v : Value} {xs : List Value} (h : w.ownsRow B T sz v n xs) (hb : Below w.heap.size w w') : w'.ownsRow B T sz v n xs := by
  obtain ⟨hl, hc⟩ := h
  refine ⟨hl, ?_⟩
  rcases hc with h0 | ⟨g, cap, cur, rfl, h1, h2, h3⟩
  · exact Or.inl h0
  · have hlt : g < w.heap.size := by
      rcases Nat.lt_or_ge g w.heap.size with h' | h'
      · exact h'
      · rw [Array.getElem?_eq_none h'] at h2; cases h2
    exact Or.inr ⟨g, cap, cur, rfl, h1, by rw [hb.block g hlt]; exact h2, h3⟩
theorem row_grown {w w' : World} {B n : Nat} {T : TypeId} {sz : Nat} {v : Value} {xs : List Value} {row : Option Nat} (h : w.ownsRow B T sz v n xs) (hg : w.grownBy w' row) (hr : ∀ g, v.ownBlock = some g → some g ≠ row) : w'.ownsRow B T sz v n xs := by
  obtain ⟨hl, hc⟩ := h
  refine ⟨hl, ?_⟩
  rcases hc with h0 | ⟨g, cap, cur, rfl, h1, h2, h3⟩
  · exact Or.inl h0
  · have hlt : g < w.heap.size := by
      rcases Nat.lt_or_ge g w.heap.size with h' | h'
      · exact h'
      · rw [Array.getElem?_eq_none h'] at h2; cases h2
    exact Or.inr ⟨g, cap, cur, rfl, h1, by rw [hg.block g hlt (hr g rfl)]; exact h2, h3⟩
theorem holds_grown {w w' : World} {B : Nat} {v : Value} {l : List Fld} {row : Option Nat} (h : Holds w B v l) (hg : w.grownBy w' row) (hr : ∀ k, row = some k → B ≤ k) : Holds w' B v l := by
  rcases h with h | ⟨h0, b, off, cap, rfl, hB, hc, h1⟩
  · exact Or.inl h
  · exact Or.inr ⟨h0, b, off, cap, rfl, hB, hc, fun j hj => ⟨hg.cell (h1 j hj).1 (fun e => by have := hr b e.symm; omega), hg.cell (h1 j hj).2 (fun e => by have := hr b e.symm; omega)⟩⟩
end Go.Proofs.YtjjelbijbbnmcaaGreatDoor.Flds

/-
  CONTRACT of the program's filterFields, at any closure with one captured variable that only reads: it returns, in new memory, the fields that the closure keeps; nothing that was there before is changed.
-/
namespace Go.Proofs.YtjjelbijbbnmcaaGreatDoor.Flds
open Go Go.RowKit
set_option linter.unusedVariables false
set_option maxRecDepth 1000000

theorem filt_more {p : Fld → Bool} {l : List Fld} {k : Nat} (h : k < l.length) : (l.take (k + 1)).filter p = if p (l.getD k nofld) = true then (l.take k).filter p ++ [l.getD k nofld] else (l.take k).filter p := by
  rw [List.take_succ_eq_append_getElem h, List.filter_append]
  have e : l.getD k nofld = l[k] := by simp [List.getD, h]
  rw [e]
  by_cases hp : p l[k] = true
  · simp [hp]
  · simp [hp]
theorem filt_le (p : Fld → Bool) (l : List Fld) (k : Nat) : ((l.take k).filter p).length ≤ l.length := by
  have h1 := List.length_filter_le p (l.take k); have h2 := List.length_take_le' k l; omega

def FilterEnd (l : List Fld) (w : World) (e : Ending) (w' : World) : Prop := ∃ v, e = .returned v ∧ Own w' w.heap.size v l ∧ Below w.heap.size w w'
/-- K is a function with a body. -/
def Enters (K : FuncId) : Prop := ∀ (args : Array Value) (w : World), Sem.run Tryz.prog (callFunc K args) w = .ok (.enter K args) w
/-- What a closure that keeps by 'p' does, at every world that has only grown. -/
def Keeps (K : FuncId) (q : Value) (p : Fld → Bool) (w : World) : Prop := ∀ (x y : List UInt8) (wx : World), Below w.heap.size w wx → Calls Tryz.prog K #[.agg #[.string ⟨x.toArray⟩, .string ⟨y.toArray⟩], q] wx fun e w' => e = .returned (.bool (p (x, y))) ∧ Below wx.heap.size wx w'

theorem filter_nil (K : FuncId) (q : Value) (a : Option Addr) (cap : Nat) (w : World) :
    Calls Tryz.prog 77 #[.slice a 0 cap, .func (.func K) #[] #[q]] w (FilterEnd [] w) := by
  go_enter Tryz.func77, Tryz.ntmps77
  go_wp2
  go_loop [5, 11] (fun v i => i = .int .i64 0 ∧ v = .slice (some ⟨w.heap.size, 0, none⟩) 0 0) (fun _ i => 0)
  case atStart => exact ⟨rfl, rfl⟩
  case round =>
    obtain ⟨rfl, rfl⟩ := hrel
    go_wp2
    go_ret
    exact ⟨_, rfl, own_lit_nil w, (Below.refl _ _).alloc (Nat.le_refl _) _⟩

theorem alloc_two (w : World) (x y : Value) (T : TypeId) : (w.alloc (.cells #[x, y] T)).cell? ⟨w.heap.size, 0, none⟩ = some x ∧ (w.alloc (.cells #[x, y] T)).cell? ⟨w.heap.size, 1, none⟩ = some y := ⟨by rw [World.cell?_alloc_new]; rfl, by rw [World.cell?_alloc_new]; rfl⟩

set_option maxHeartbeats 1000000 in
theorem filter_some (K : FuncId) (q : Value) (p : Fld → Bool) (b off cap : Nat) (l : List Fld) (w : World) (hE : Enters K) (hK : Keeps K q p w) (hc : At w b off l) (h0 : 0 < l.length) (hl : l.length ≤ 1048576) :
    Calls Tryz.prog 77 #[.slice (some ⟨b, off, none⟩) l.length cap, .func (.func K) #[] #[q]] w (FilterEnd (l.filter p) w) := by
  obtain ⟨i0, hi, hz0, hz1, hz2⟩ := info_parts info_fld
  have hbl := at_lt hc h0
  have HC := Lib.hid hc
  have HK := Lib.hid hK
  have HO := Lib.hid (own_lit_nil w)
  have HE := Lib.hid hE
  clear hc hK hE
  go_enter Tryz.func77, Tryz.ntmps77
  go_wp2
  go_loopw [5, 11] (fun v i wr => ∃ k : Nat, k ≤ l.length ∧ i = .int .i64 (k : Int) ∧ Own wr w.heap.size v ((l.take k).filter p) ∧ Below w.heap.size w wr) (fun _ i _ => l.length - (intOf i).toNat)
  case atStart => exact ⟨0, Nat.zero_le _, rfl, by rw [List.take_zero]; exact HO.out, (Below.refl _ _).alloc (Nat.le_refl _) _⟩
  case round =>
    clear HO
    obtain ⟨k, hk, rfl, hown, hb⟩ := hrel
    by_cases hlt : k < l.length
    · obtain ⟨c1, c2⟩ := at_below HC.out hb hbl k hlt
      have HM := Lib.hid (filt_more (p := p) hlt)
      generalize hx : l.getD k nofld = f at c1 c2 HM
      clear hx
      obtain ⟨x, y⟩ := f
      unfold sv at c1 c2
      have HB := Lib.hid hb
      have HO := Lib.hid hown
      clear hb hown
      have hws := HB.out.size
      have hwa := alloc_two wr (.string ⟨x.toArray⟩) (.string ⟨y.toArray⟩) 69
      have HKx := Lib.hid (HK.out x y (wr.alloc (.cells #[.string ⟨x.toArray⟩, .string ⟨y.toArray⟩] 69)) (HB.out.alloc HB.out.size _))
      by_cases hp : p (x, y) = true
      · rw [hp] at HKx
        rw [if_pos hp] at HM
        clear hp
        have hL := fcs_len ((l.take k).filter p)
        have HL := Lib.hid (filt_le p l k)
        go_wp2_with (fail)
        rw [HE.out, Oper.upon_enter]
        refine HKx.out.mono ?_
        rintro e w1 ⟨rfl, hb1⟩
        have hg1 := hb1.size
        rw [World.size_alloc] at hg1
        have d1 : w1.cell? ⟨wr.heap.size, 0, none⟩ = some (.string ⟨x.toArray⟩) := (hb1.cell (p := ⟨wr.heap.size, 0, none⟩) (by rw [World.size_alloc]; exact Nat.lt_succ_self _)).trans hwa.1
        have d2 : w1.cell? ⟨wr.heap.size, 1, none⟩ = some (.string ⟨y.toArray⟩) := (hb1.cell (p := ⟨wr.heap.size, 1, none⟩) (by rw [World.size_alloc]; exact Nat.lt_succ_self _)).trans hwa.2
        have hbb : Below wr.heap.size wr w1 := ((Below.refl wr.heap.size wr).alloc (Nat.le_refl _) _).trans (hb1.mono (by rw [World.size_alloc]; omega))
        have hown := own_below HO.out hbb
        have hb := HB.out.trans (hbb.mono HB.out.size)
        clear hb1 hbb
        go_wp2_with (at_builtin; refine wpList_append_own _ rfl (.tmp 18) (.tmp 20) 30 rfl w.heap.size 69 i0 (.agg #[.string ⟨#[]⟩, .string ⟨#[]⟩]) 2 32 Tryz.underlying30 hi hz0 hz1 hz2 rfl (by decide) _ _ _ rfl (hown.alloc _) ⟨w1.heap.size, 0, none⟩ 1 1 [.string ⟨x.toArray⟩, .string ⟨y.toArray⟩] rfl rfl (news_two _ _ _ _) (two_one (x, y)) (by have := HL.out; unfold maxLen; omega) (by have := HL.out; omega) (by have := hb.size; simp; omega) ?_; intro v1 w2 hown1 hg2 _)
        have R := Lib.hid (push_own (f := (x, y)) hown hb (Nat.le_refl _) hown1 hg2)
        clear hown hown1 hg2 hb
        go_wp2
        go_roundw
        case rel => exact ⟨k + 1, by omega, by go_num, by rw [HM.out]; exact R.out.1, R.out.2⟩
        case measure => simp [intOf]; omega
      · have hp' : p (x, y) = false := by simpa using hp
        rw [hp'] at HKx
        rw [if_neg hp] at HM
        clear hp hp'
        go_wp2_with (fail)
        rw [HE.out, Oper.upon_enter]
        refine HKx.out.mono ?_
        rintro e w1 ⟨rfl, hb1⟩
        have hbb : Below wr.heap.size wr w1 := ((Below.refl wr.heap.size wr).alloc (Nat.le_refl _) _).trans (hb1.mono (by rw [World.size_alloc]; omega))
        have HR := Lib.hid (And.intro (own_below HO.out hbb) (HB.out.trans (hbb.mono HB.out.size)))
        clear hb1 hbb
        go_wp2
        go_roundw
        case rel => exact ⟨k + 1, by omega, by go_num, by rw [HM.out]; exact HR.out.1, HR.out.2⟩
        case measure => simp [intOf]; omega
    · have HF : Hid ((l.take k).filter p = l.filter p) := Lib.hid (by rw [List.take_of_length_le (by omega)])
      have HO := Lib.hid (And.intro hown hb)
      clear hown hb
      go_wp2
      go_ret
      exact ⟨_, rfl, by rw [← HF.out]; exact HO.out.1, HO.out.2⟩

theorem filter_any (K : FuncId) (q : Value) (p : Fld → Bool) (v : Value) (B : Nat) (l : List Fld) (w : World) (hE : Enters K) (hK : Keeps K q p w) (h : Holds w B v l) (hl : l.length ≤ 1048576) :
    Calls Tryz.prog 77 #[v, .func (.func K) #[] #[q]] w (FilterEnd (l.filter p) w) := by
  rcases h with ⟨rfl, a, cap, rfl⟩ | ⟨h0, b, off, cap, rfl, _, _, hc⟩
  · exact filter_nil K q a cap w
  · exact filter_some K q p b off cap l w hE hK hc h0 hl

/-! The closures of GetField and DropField: one captured text. -/
theorem enters_get : Enters 91 := fun args w => rfl
end Go.Proofs.YtjjelbijbbnmcaaGreatDoor.Flds
