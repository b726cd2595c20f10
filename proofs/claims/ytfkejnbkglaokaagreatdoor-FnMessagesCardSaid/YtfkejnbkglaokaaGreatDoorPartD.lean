/-
  CONTRACTS AND PLAIN FACTS, several texts in one; each says in its own words what it proves.
-/
import Derived.Test.YtfkejnbkglaokaaGreatDoorPartA
import Derived.ChangeSlices
import Derived.ChangeArms
import Derived.OwnWalk
import Derived.Laws.OwnMore
import Derived.Laws.AppendOwn
import Derived.Deep.Slices
import Derived.OneCell
import Derived.Test.YtfkejnbkglaokaaGreatDoorPartC
import Derived.LoopTactic
import Derived.Outline
set_option linter.unusedSimpArgs false
set_option linter.unusedVariables false

/-
  PLAIN FACTS on slices of structs whose fields are one cell each, whatever the struct ('cs a': the cells of a; n: how many; z: the zero): what a slice holds, how that is kept, how a slice that the call itself has built is such a one, and how its places are filled.
-/
namespace Go.Proofs.YtfkejnbkglaokaaGreatDoor.Rec
open Go Go.RowKit
set_option linter.unusedVariables false
set_option maxRecDepth 1000000

def flat {α : Type} (cs : α → List Value) (l : List α) : List Value := l.flatMap cs
/-- Values set one behind the other, from place o on. -/
def put (xs : List Value) (o : Nat) : List Value → List Value
  | [] => xs
  | u :: us => put (xs.set o u) (o + 1) us
theorem put_right (xs ys us : List Value) (o : Nat) : put (xs ++ ys) (xs.length + o) us = xs ++ put ys o us := by
  induction us generalizing ys o with
  | nil => rfl
  | cons u us ih =>
    show put ((xs ++ ys).set (xs.length + o) u) (xs.length + o + 1) us = xs ++ put (ys.set o u) (o + 1) us
    rw [List.set_append_right _ _ (by omega), show xs.length + o - xs.length = o by omega, Nat.add_assoc, ih]
theorem put_full (bs ys us : List Value) (h : us.length = bs.length) : put (bs ++ ys) 0 us = us ++ ys := by
  induction us generalizing bs with
  | nil => have : bs = [] := List.eq_nil_of_length_eq_zero h.symm; subst this; rfl
  | cons u us ih =>
    cases bs with
    | nil => simp at h
    | cons b bs =>
      show put (u :: (bs ++ ys)) (0 + 1) us = u :: us ++ ys
      have h1 := put_right [u] (bs ++ ys) us 0
      simp only [List.length_singleton, List.cons_append, List.nil_append] at h1
      rw [show (0 + 1 : Nat) = 1 + 0 by rfl, h1, ih bs (by simpa using h)]; rfl

section
variable {α : Type} {n : Nat} {cs : α → List Value} {z : α}
theorem flat_len (hl : ∀ a, (cs a).length = n) (l : List α) : (flat cs l).length = l.length * n := by
  unfold flat
  induction l with
  | nil => simp
  | cons a r ih => rw [List.flatMap_cons, List.length_append, ih, hl, List.length_cons, Nat.succ_mul]; omega
theorem flat_more (l : List α) (a : α) : flat cs (l ++ [a]) = flat cs l ++ cs a := by unfold flat; simp
theorem flat_append (l r : List α) : flat cs (l ++ r) = flat cs l ++ flat cs r := by unfold flat; simp
theorem flat_at (hl : ∀ a, (cs a).length = n) {l : List α} {j i : Nat} {u : Value} (h : j < l.length) (hu : (cs (l.getD j z))[i]? = some u) : (flat cs l)[j * n + i]? = some u := by
  unfold flat
  induction l generalizing j with
  | nil => simp at h
  | cons a r ih =>
    cases j with
    | zero =>
      have hu' : (cs a)[i]? = some u := hu
      rw [List.flatMap_cons, Nat.zero_mul, Nat.zero_add, List.getElem?_append_left (by exact (List.getElem?_eq_some_iff.1 hu').1)]
      exact hu'
    | succ j =>
      rw [List.flatMap_cons, List.getElem?_append_right (by rw [hl, Nat.succ_mul]; omega), hl, show (j + 1) * n + i - n = j * n + i by rw [Nat.succ_mul]; omega]
      exact ih (by simpa using h) hu
theorem flat_one (h1 : ∀ a, ∀ u ∈ cs a, u.oneCell' = true) (l : List α) : ∀ u ∈ flat cs l, u.oneCell' = true := by
  intro u hu
  obtain ⟨f, _, hf⟩ := List.mem_flatMap.1 hu
  exact h1 f u hf
/-- All cells of one place are set. -/
theorem flat_put (hl : ∀ a, (cs a).length = n) {l : List α} {k : Nat} (a : α) (h : k < l.length) : put (flat cs l) (k * n) (cs a) = flat cs (l.set k a) := by
  induction l generalizing k with
  | nil => simp at h
  | cons b r ih =>
    cases k with
    | zero =>
      show put (cs b ++ flat cs r) (0 * n) (cs a) = cs a ++ flat cs r
      rw [Nat.zero_mul, put_full _ _ _ (by rw [hl, hl])]
    | succ k =>
      show put (cs b ++ flat cs r) ((k + 1) * n) (cs a) = cs b ++ flat cs (r.set k a)
      rw [show (k + 1) * n = (cs b).length + k * n by rw [hl, Nat.succ_mul]; omega, put_right, ih (by simpa using h)]

/-- The cells from (b, off) on are these structs. -/
def At (n : Nat) (cs : α → List Value) (z : α) (w : World) (b off : Nat) (l : List α) : Prop := ∀ j, j < l.length → ∀ i u, (cs (l.getD j z))[i]? = some u → w.cell? ⟨b, off + j * n + i, none⟩ = some u
/-- The slice v reads as the structs l; its cells lie below block B. -/
def Holds (n : Nat) (cs : α → List Value) (z : α) (w : World) (B : Nat) (v : Value) (l : List α) : Prop := (l = [] ∧ ∃ a cap, v = .slice a 0 cap) ∨ (0 < l.length ∧ ∃ b off cap, v = .slice (some ⟨b, off, none⟩) l.length cap ∧ b < B ∧ l.length ≤ cap ∧ At n cs z w b off l)
theorem lt_of_cell {w : World} {b o : Nat} {u : Value} (h : w.cell? ⟨b, o, none⟩ = some u) : b < w.heap.size := by
  rcases Nat.lt_or_ge b w.heap.size with h' | h'
  · exact h'
  · simp [World.cell?, Array.getElem?_eq_none h'] at h
theorem at_lt (hl : ∀ a, (cs a).length = n) (hn : 0 < n) {w : World} {b off : Nat} {l : List α} (h : At n cs z w b off l) (h0 : 0 < l.length) : b < w.heap.size := by
  have h1 : 0 < (cs (l.getD 0 z)).length := by rw [hl]; exact hn
  exact lt_of_cell (h 0 h0 0 _ (List.getElem?_eq_getElem h1))
theorem at_below {w w' : World} {B b off : Nat} {l : List α} (h : At n cs z w b off l) (hb : Below B w w') (hlt : b < B) : At n cs z w' b off l := fun j hj i u hu => by
  rw [hb.cell (p := ⟨b, off + j * n + i, none⟩) hlt]; exact h j hj i u hu
theorem holds_more {w : World} {B B' : Nat} {v : Value} {l : List α} (h : Holds n cs z w B v l) (hB : B ≤ B') : Holds n cs z w B' v l := by
  rcases h with h | ⟨h0, b, off, cap, rfl, h2, hc, h1⟩
  · exact Or.inl h
  · exact Or.inr ⟨h0, b, off, cap, rfl, by omega, hc, h1⟩
theorem holds_below {w w' : World} {B : Nat} {v : Value} {l : List α} (h : Holds n cs z w B v l) (hb : Below B w w') : Holds n cs z w' B v l := by
  rcases h with h | ⟨h0, b, off, cap, rfl, hB, hc, h1⟩
  · exact Or.inl h
  · exact Or.inr ⟨h0, b, off, cap, rfl, hB, hc, at_below h1 hb hB⟩
theorem holds_grown {w w' : World} {B : Nat} {v : Value} {l : List α} {row : Option Nat} (h : Holds n cs z w B v l) (hg : w.grownBy w' row) (hr : ∀ k, row = some k → B ≤ k) : Holds n cs z w' B v l := by
  rcases h with h | ⟨h0, b, off, cap, rfl, hB, hc, h1⟩
  · exact Or.inl h
  · exact Or.inr ⟨h0, b, off, cap, rfl, hB, hc, fun j hj i u hu => hg.cell (h1 j hj i u hu) (fun e => by have := hr b e.symm; omega)⟩
theorem own_len (hl : ∀ a, (cs a).length = n) (hn : 0 < n) {w : World} {B : Nat} {T : TypeId} {v : Value} {l : List α} {m : Nat} (h : w.ownsRow B T n v m (flat cs l)) : m = l.length := by
  have := h.1; rw [flat_len hl] at this; exact (Nat.eq_of_mul_eq_mul_right hn this).symm
theorem own_cell (hl : ∀ a, (cs a).length = n) (hn : 0 < n) {w : World} {B g cap : Nat} {T : TypeId} {l : List α} {m : Nat} (h : w.ownsRow B T n (.slice (some ⟨g, 0, none⟩) m cap) m (flat cs l)) {j i : Nat} {u : Value} (hj : j < m) (hu : (cs (l.getD j z))[i]? = some u) : w.cell? ⟨g, j * n + i, none⟩ = some u := by
  have hm := own_len hl hn h
  have h1 := h.cells (g := g) rfl _ _ (flat_at hl (z := z) (l := l) (j := j) (i := i) (u := u) (by omega) hu)
  simpa only [WideShapes.add_plain, Nat.zero_add] using h1
theorem own_holds (hl : ∀ a, (cs a).length = n) (hn : 0 < n) {w : World} {B : Nat} {T : TypeId} {v : Value} {l : List α} (h : w.ownsRow B T n v l.length (flat cs l)) : Holds n cs z w w.heap.size v l := by
  have h' := h
  obtain ⟨hlen, hc⟩ := h
  rcases hc with ⟨rfl, h0⟩ | ⟨g, cap, cur, rfl, hb, hg, hm, hcap, hs, ht⟩
  · exact Or.inl ⟨List.eq_nil_of_length_eq_zero h0, _, _, rfl⟩
  · by_cases h0 : l = []
    · subst h0; exact Or.inl ⟨rfl, _, _, rfl⟩
    · refine Or.inr ⟨List.length_pos_iff.2 h0, g, 0, cap, rfl, (h'.lt g rfl).2, hm, fun j hj i u hu => ?_⟩
      rw [Nat.zero_add]; exact own_cell hl hn h' hj hu
theorem own_mono {w : World} {B B' : Nat} {T : TypeId} {v : Value} {m : Nat} {xs : List Value} (h : w.ownsRow B T n v m xs) (hB : B' ≤ B) : w.ownsRow B' T n v m xs := by
  obtain ⟨hl, hc⟩ := h
  refine ⟨hl, ?_⟩
  rcases hc with h0 | ⟨g, cap, cur, rfl, h1, h2, h3⟩
  · exact Or.inl h0
  · exact Or.inr ⟨g, cap, cur, rfl, by omega, h2, h3⟩
/-- One more struct behind a slice that the call has built. -/
theorem push_own {B : Nat} {T : TypeId} {a w w1 : World} {v v' : Value} {l : List α} {f : α} {o : Obj} (hown : w.ownsRow B T n v l.length (flat cs l)) (hb : Below a.heap.size a w) (hB : a.heap.size ≤ B)
    (h' : w1.ownsRow B T n v' (l.length + 1) (flat cs l ++ cs f)) (hg : (w.alloc o).grownBy w1 v.ownBlock) :
    w1.ownsRow B T n v' (l ++ [f]).length (flat cs (l ++ [f])) ∧ Below a.heap.size a w1 := by
  refine ⟨by rw [List.length_append, flat_more]; exact h', (hb.alloc hb.size o).grown hg (by have := hb.size; simp; omega) (fun k e => Nat.le_trans hB (hown.lt k e).1)⟩
theorem own_lit_nil (w : World) (T : TypeId) : (w.alloc (.cells #[] T)).ownsRow w.heap.size T n (.slice (some ⟨w.heap.size, 0, none⟩) 0 0) ([] : List α).length (flat cs []) := World.ownsRow_lit w #[] 0 (Nat.le_refl _) (by decide) (by simp)

/-- A list of which k places are filled. -/
def part (z : α) (l : List α) (k : Nat) : List α := l.take k ++ List.replicate (l.length - k) z
theorem part_len (l : List α) {k : Nat} (h : k ≤ l.length) : (part z l k).length = l.length := by
  unfold part; rw [List.length_append, List.length_take, List.length_replicate]; omega
theorem part_zero (l : List α) : part z l 0 = List.replicate l.length z := by unfold part; simp
theorem part_all (l : List α) : part z l l.length = l := by unfold part; simp
theorem part_more {l : List α} {k : Nat} (h : k < l.length) : (part z l k).set k (l.getD k z) = part z l (k + 1) := by
  unfold part
  rw [List.set_append_right _ _ (by rw [List.length_take]; omega), List.length_take, show k - min k l.length = 0 by omega,
    show l.length - k = (l.length - (k + 1)) + 1 by omega, List.replicate_succ, List.set_cons_zero, List.take_succ_eq_append_getElem h, List.append_assoc]
  simp [List.getD, h]
theorem made_flat (hl : ∀ a, (cs a).length = n) (hn : 0 < n) (m : Nat) (zc : Array Value) (hz : zc.toList = cs z) : (madeCells zc (m * n)).toList = flat cs (List.replicate m z) := by
  apply List.ext_getElem?
  intro q
  have hsz : zc.size = n := by rw [← Array.length_toList, hz, hl]
  by_cases hq : q < m * n
  · have hj : q / n < m := (Nat.div_lt_iff_lt_mul hn).2 hq
    have hi : q % n < n := Nat.mod_lt _ hn
    have hu : (cs ((List.replicate m z).getD (q / n) z))[q % n]? = some ((cs z)[q % n]'(by rw [hl]; exact hi)) := by
      rw [show (List.replicate m z).getD (q / n) z = z by simp [List.getD, List.getElem?_replicate, hj]]
      exact List.getElem?_eq_getElem _
    have h1 := flat_at hl (z := z) (l := List.replicate m z) (j := q / n) (by rw [List.length_replicate]; exact hj) hu
    rw [Nat.mul_comm, Nat.div_add_mod] at h1
    rw [h1]
    unfold madeCells
    rw [Array.toList_map, List.getElem?_map, Array.toList_range, List.getElem?_range hq]
    have hi2 : q % n < zc.size := by omega
    have hqs : q % zc.size = q % n := by rw [hsz]
    have e2 : zc[q % zc.size]! = zc[q % n]'hi2 := by rw [hqs]; exact getElem!_pos zc (q % n) hi2
    show some (zc[q % zc.size]!) = _
    rw [e2]
    congr 1
    rw [← Array.getElem_toList]
    simp only [hz]
  · rw [List.getElem?_eq_none (by rw [Array.length_toList, size_madeCells]; omega), List.getElem?_eq_none (by rw [flat_len hl, List.length_replicate]; omega)]
theorem made_part (hl : ∀ a, (cs a).length = n) (hn : 0 < n) (l : List α) (zc : Array Value) (hz : zc.toList = cs z) : (madeCells zc (l.length * n)).toList = flat cs (part z l 0) := by
  rw [part_zero]; exact made_flat hl hn l.length zc hz
end
section
variable {α : Type} {z : α}
/-- The size of a list of structs: its texts' lengths and its own. -/
def total (wt : α → Nat) (l : List α) : Nat := (l.map wt).sum + l.length
def pre (wt : α → Nat) (l : List α) (k : Nat) : Nat := ((l.take k).map wt).sum
theorem total_nil (wt : α → Nat) : total wt [] = 0 := rfl
theorem len_le_total (wt : α → Nat) (l : List α) : l.length ≤ total wt l := by unfold total; omega
theorem mem_total (wt : α → Nat) {l : List α} {f : α} (h : f ∈ l) : wt f ≤ total wt l := by
  unfold total
  induction l with
  | nil => cases h
  | cons a r ih =>
    simp only [List.map_cons, List.sum_cons, List.length_cons]
    rcases List.mem_cons.1 h with rfl | h
    · omega
    · have := ih h; omega
theorem total_plain (l : List α) : total (fun _ => 0) l = l.length := by
  unfold total
  have : (l.map fun _ => 0).sum = 0 := by induction l with
    | nil => rfl
    | cons a r ih => simpa using ih
  omega
theorem pre_zero (wt : α → Nat) (l : List α) : pre wt l 0 = 0 := by unfold pre; simp
theorem pre_more (wt : α → Nat) {l : List α} {k : Nat} (h : k < l.length) : pre wt l (k + 1) = pre wt l k + wt (l.getD k z) := by
  unfold pre; rw [List.take_succ_eq_append_getElem h, List.map_append, List.sum_append]; simp [List.getD, h]
theorem pre_all (wt : α → Nat) {l : List α} {k : Nat} (h : k = l.length) : total wt l = pre wt l k + l.length := by unfold pre total; subst h; simp
theorem getD_mem {l : List α} {k : Nat} (h : k < l.length) : l.getD k z ∈ l := by
  rw [show l.getD k z = l[k] by simp [List.getD, h]]; exact List.getElem_mem _

/-- A list whose first j places are what mk says of their index. -/
def mkl (mk : Nat → α) (m : Nat) : List α := (List.range m).map mk
def mks (mk : Nat → α) (l : List α) (j : Nat) : List α := mkl mk j ++ l.drop j
theorem mkl_len (mk : Nat → α) (m : Nat) : (mkl mk m).length = m := by unfold mkl; simp
theorem mkl_at (mk : Nat → α) {m j : Nat} (h : j < m) : (mkl mk m).getD j z = mk j := by unfold mkl; simp [List.getD, h]
theorem mks_zero (mk : Nat → α) (l : List α) : mks mk l 0 = l := by unfold mks mkl; simp
theorem mks_len (mk : Nat → α) {l : List α} {j : Nat} (h : j ≤ l.length) : (mks mk l j).length = l.length := by unfold mks; rw [List.length_append, mkl_len, List.length_drop]; omega
theorem mks_more (mk : Nat → α) {l : List α} {j : Nat} (h : j < l.length) : (mks mk l j).set j (mk j) = mks mk l (j + 1) := by
  unfold mks
  rw [List.set_append_right _ _ (by rw [mkl_len]; exact Nat.le_refl _), mkl_len, Nat.sub_self, List.drop_eq_getElem_cons h, List.set_cons_zero]
  unfold mkl
  rw [List.range_succ, List.map_append, List.append_assoc]; rfl
theorem mks_all (mk : Nat → α) {l : List α} {j : Nat} (h : j = l.length) : mks mk l j = mkl mk l.length := by unfold mks; subst h; simp
end
/-- What is put into place k of a list that is filled from the left. -/
theorem text_of (s : ByteArray) : (Value.string s) = .string ⟨s.data.toList.toArray⟩ := by simp
/-- A struct that stands in a block of its own, as what is put behind a slice. -/
theorem news (w : World) (cs : List Value) (T : TypeId) : ∀ j u, cs[j]? = some u → (w.alloc (.cells cs.toArray T)).cell? ((⟨w.heap.size, 0, none⟩ : Addr).add j) = some u := by
  intro j u hj
  rw [WideShapes.add_plain, Nat.zero_add, World.cell?_alloc_new]
  simpa using hj
/-- What the call has built is kept by what only adds. -/
theorem row_below {w w' : World} {B m : Nat} {T : TypeId} {sz : Nat} {v : Value} {xs : List Value} (h : w.ownsRow B T sz v m xs) (hb : Below w.heap.size w w') : w'.ownsRow B T sz v m xs := by
  obtain ⟨hl, hc⟩ := h
  refine ⟨hl, ?_⟩
  rcases hc with h0 | ⟨g, cap, cur, rfl, h1, h2, h3⟩
  · exact Or.inl h0
  · have hlt : g < w.heap.size := by
      rcases Nat.lt_or_ge g w.heap.size with h' | h'
      · exact h'
      · rw [Array.getElem?_eq_none h'] at h2; cases h2
    exact Or.inr ⟨g, cap, cur, rfl, h1, by rw [hb.block g hlt]; exact h2, h3⟩
theorem row_grown {w w' : World} {B m : Nat} {T : TypeId} {sz : Nat} {v : Value} {xs : List Value} {row : Option Nat} (h : w.ownsRow B T sz v m xs) (hg : w.grownBy w' row) (hr : ∀ g, v.ownBlock = some g → some g ≠ row) : w'.ownsRow B T sz v m xs := by
  obtain ⟨hl, hc⟩ := h
  refine ⟨hl, ?_⟩
  rcases hc with h0 | ⟨g, cap, cur, rfl, h1, h2, h3⟩
  · exact Or.inl h0
  · have hlt : g < w.heap.size := by
      rcases Nat.lt_or_ge g w.heap.size with h' | h'
      · exact h'
      · rw [Array.getElem?_eq_none h'] at h2; cases h2
    exact Or.inr ⟨g, cap, cur, rfl, h1, by rw [hg.block g hlt (hr g rfl)]; exact h2, h3⟩
theorem row_apart {w : World} {B B' n n' : Nat} {T T' : TypeId} {sz sz' : Nat} {v v' : Value} {xs xs' : List Value} (h : w.ownsRow B T sz v n xs) (h' : w.ownsRow B' T' sz' v' n' xs') (hT : T ≠ T') : ∀ g, v.ownBlock = some g → some g ≠ v'.ownBlock := by
  intro g hg hg'
  rcases h.2 with ⟨rfl, _⟩ | ⟨a, cap, cur, rfl, _, h2, _⟩
  · cases hg
  · rcases h'.2 with ⟨rfl, _⟩ | ⟨a', cap', cur', rfl, _, h2', _⟩
    · cases hg'
    · cases hg; cases hg'
      rw [h2] at h2'
      simp at h2'
      exact hT h2'.2
/-- What the call has built is kept where a cell of a younger block is written. -/
theorem own_set {w : World} {B n g : Nat} {T : TypeId} {sz : Nat} {v : Value} {xs : List Value} (h : w.ownsRow B T sz v n xs) (hlt : ∀ k, v.ownBlock = some k → k < g) (o : Nat) (u : Value) : (w.setCell ⟨g, o, none⟩ u).ownsRow B T sz v n xs :=
  ownsRow_setCell_other h (fun e => by have := hlt g e; omega) u
theorem grown_trans {a b c : World} {row : Option Nat} (h : a.grownBy b row) (k : b.grownBy c row) : a.grownBy c row := ⟨k.os.trans h.os, k.tape.trans h.tape, k.output.trans h.output, Nat.le_trans h.size k.size, fun i hi hr => (k.block i (Nat.lt_of_lt_of_le hi h.size) hr).trans (h.block i hi hr)⟩
theorem grown_of_below {a b : World} {row : Option Nat} (h : Below a.heap.size a b) : a.grownBy b row := ⟨h.os, h.tape, h.output, h.size, fun i hi _ => h.block i hi⟩
theorem shape_at {w : World} {B : Nat} {v : Value} {T : TypeId} {s m : Nat} {xs : List Value} (h : w.ownsRow B T s v m xs) : ∃ a cap, v = .slice a m cap ∧ (0 < m → ∃ g, a = some ⟨g, 0, none⟩) := by
  rcases h.2 with ⟨rfl, h0⟩ | ⟨g, cap, cur, rfl, _⟩
  · exact ⟨none, 0, by rw [h0], fun h' => by omega⟩
  · exact ⟨_, cap, rfl, fun _ => ⟨g, rfl⟩⟩
theorem below_drew {B : Nat} {a w : World} (h : Below B a w) : Below B a w.drew := ⟨h.os, h.tape, h.output, h.size, h.block⟩
theorem below_drewN {B : Nat} {a w : World} (h : Below B a w) (n : Nat) : Below B a (w.drewN n) := ⟨h.os, h.tape, h.output, h.size, h.block⟩
theorem below_of_drew {B : Nat} {w w' : World} (h : Below B w.drew w') : Below B w w' := ⟨h.os, h.tape, h.output, h.size, h.block⟩
theorem ret_nat {a b : Nat} (h : a = b) : Ending.returned (.int .i64 (a : Int)) = .returned (.int .i64 (b : Int)) := by rw [h]
def Yes (w : World) (e : Ending) (w' : World) : Prop := e = .returned (.bool true) ∧ Below w.heap.size w w'
end Go.Proofs.YtfkejnbkglaokaaGreatDoor.Rec

/-
  CONTRACTS of the draws of chapter 11 that the law calls (l11Response, DrawFormatRequest, DrawFormatResponse): over any slice of bytes they answer a request and a response with few short fields in memory of their own; nothing that was there before is changed.
-/
namespace Go.Proofs.YtfkejnbkglaokaaGreatDoor.Cur
open Go Go.RowKit
set_option linter.unusedVariables false
set_option maxRecDepth 1000000

theorem box3 {w : World} {g : Nat} {a b c : Value} {T : TypeId} (h : w.heap[g]? = some (.cells #[a, b, c] T (0, 0))) :
    (w.cell? ⟨g, 0, none⟩ = some a ∧ w.cell? ⟨g, 1, none⟩ = some b ∧ w.cell? ⟨g, 2, none⟩ = some c) ∧ (w.frozen? ⟨g, 0, none⟩ = false ∧ w.frozen? ⟨g, 1, none⟩ = false ∧ w.frozen? ⟨g, 2, none⟩ = false) := by
  simp [World.cell?, World.frozen?, h]
theorem box3_new (w : World) (a b c : Value) (T : TypeId) : (w.alloc (.cells #[a, b, c] T)).heap[w.heap.size]? = some (.cells #[a, b, c] T (0, 0)) := by
  show (w.heap.push _)[w.heap.size]? = _; simp
theorem blk_row {W w' : World} {g : Nat} {o : Obj} {row : Option Nat} (hW : W.heap[g]? = some o) (hg : W.grownBy w' row) (hne : ∀ k, row = some k → k ≠ g) : w'.heap[g]? = some o := (hg.block g (lt_of_block hW) (fun e => hne g e.symm rfl)).trans hW
theorem blk_alloc {W : World} {g : Nat} {o q : Obj} (hW : W.heap[g]? = some o) : (W.alloc q).heap[g]? = some o := (Below.heap_alloc _ _ _ (lt_of_block hW)).trans hW
def rcodes : List Int := [200, 200, 304, 404, 206, 199, 600]
theorem rcodes_fit (x : Int) (h : x ∈ rcodes) : 0 ≤ x ∧ x ≤ 600 := by
  unfold rcodes at h
  simp at h
  omega
def rbodies : List (List UInt8) := [[], [104, 105], [97, 13, 10, 13, 10, 98], [84, 104, 101, 32, 113, 117, 105, 99, 107, 32, 98, 114, 111, 119, 110, 32, 102, 111, 120, 46]]
theorem rbodies_len (x : List UInt8) (h : x ∈ rbodies) : x.length ≤ 20 := by
  have hall : rbodies.all (fun x => decide (x.length ≤ 20)) = true := by decide
  have := List.all_eq_true.1 hall x h
  simpa using this

/-- Few short fields, at most six. -/
def Few6 (l : List Flds.Fld) : Prop := l.length ≤ 6 ∧ ∀ f ∈ l, f.1.length ≤ 15 ∧ f.2.length ≤ 9
theorem few6_total {l : List Flds.Fld} (h : Few6 l) : Flds.total l ≤ 150 := by
  have hs : ∀ q : List Flds.Fld, (∀ f ∈ q, f.1.length ≤ 15 ∧ f.2.length ≤ 9) → (q.map Flds.wt).sum ≤ 24 * q.length := by
    intro q
    induction q with
    | nil => intro _; simp
    | cons a r ih =>
      intro hq
      have h1 := hq a (List.mem_cons_self ..)
      have h2 := ih (fun f hf => hq f (List.mem_cons_of_mem _ hf))
      rw [List.map_cons, List.sum_cons, List.length_cons]
      unfold Flds.wt at *
      omega
  have h1 := hs l h.2
  have h2 := h.1
  unfold Flds.total
  omega
def DrawnA (c : Nat) (bv : Value) (w : World) (e : Ending) (w' : World) : Prop := ∃ (k : Int) (v : Value) (l : List Flds.Fld) (b : List UInt8), e = .returned (.agg #[.int .i64 k, v, .string ⟨b.toArray⟩]) ∧ (0 ≤ k ∧ k ≤ 600 ∧ Few6 l ∧ b.length ≤ 20) ∧ Flds.Own w' w.heap.size v l ∧ CurAt w' c bv ∧ w.grownBy w' (some c)
set_option maxHeartbeats 8000000 in
theorem rsp_any (c B : Nat) (bv : Value) (w : World) (hcur : CurAt w c bv) (hby : Bytes w B bv) (hB : B ≤ c) :
    Calls Tryz.prog 42 #[.pointer (some ⟨c, 0, none⟩)] w (DrawnA c bv w) := by
  obtain ⟨i0, hi, hz0, hz1, hz2⟩ := info_parts Flds.info_fld
  have hcl := cur_lt hcur
  have hc0 := cur_alloc hcur (.cells #[.int .i64 0, .slice none 0 0, .string ⟨#[]⟩] 31)
  have hy0 := bytes_alloc hby (.cells #[.int .i64 0, .slice none 0 0, .string ⟨#[]⟩] 31)
  have HBX := Lib.hid (box3_new w (.int .i64 0) (.slice none 0 0) (.string ⟨#[]⟩) 31)
  have HG0 : Hid (w.grownBy (w.alloc (.cells #[.int .i64 0, .slice none 0 0, .string ⟨#[]⟩] 31)) (some c)) := Lib.hid (World.grownBy_alloc _ _ _)
  have hsz : (w.alloc (.cells #[.int .i64 0, .slice none 0 0, .string ⟨#[]⟩] 31)).heap.size = w.heap.size + 1 := by simp
  have HSZ := Lib.hid hsz
  have H1 := int_lits c B bv rcodes 7 rfl _ hc0 hy0 hB (by decide) (by decide) 3
  rw [hsz] at H1
  clear hcur hby hc0 hsz
  go_enter Tryz.func42, Tryz.ntmps42
  go_wp2_with (fail)
  go_at_call 70
  refine H1.mono ?_
  rintro e w1 ⟨k, hk, rfl, hc1, hg1⟩
  have HK := Lib.hid (rcodes_fit k hk)
  have hy1 := bytes_kept hy0 hg1 hB
  have HG1 := Lib.hid hg1
  have hs1 : w.heap.size + 1 ≤ w1.heap.size := by have := hg1.size; rw [HSZ.out] at this; exact this
  clear hk hy0 hg1 H1
  go_wp2_with (fail)
  go_at_call 67
  refine (flds_any c B bv w1 hc1 hy1 hB).mono ?_
  rintro e w2 ⟨v, l, rfl, hfw, ⟨g, cp, rfl⟩, ho, hc2, hg2⟩
  have hy2 := bytes_kept hy1 hg2 hB
  have HG2 := Lib.hid (gb_trans HG1.out hg2)
  have hgl := ho.lt g rfl
  have hg20 : g < w2.heap.size := hgl.2
  have hg21 : w1.heap.size ≤ g := hgl.1
  have HF := Lib.hid hfw
  have HO2 := Lib.hid ho
  have H3 := str_lits c B bv rbodies 4 rfl w2 hc2 hy2 hB (by decide) (by decide) 9
  clear hfw ho hc1 hy1 hc2 hg2 hgl HG1
  go_wp2_with (fail)
  go_at_call 65
  refine H3.mono ?_
  rintro e w3 ⟨b, hb, rfl, hc3, hg3⟩
  have HBL := Lib.hid (rbodies_len b hb)
  have hy3 := bytes_kept hy2 hg3 hB
  have HG3 := Lib.hid (gb_trans (gb_trans HG2.out hg3) (World.grownBy_alloc w3 (.cells #[.int .i64 k, .slice (some ⟨g, 0, none⟩) l.length cp, .string ⟨b.toArray⟩] 31) _))
  have HO3 := Lib.hid ((HO2.out.kept hg3 (Or.inr (fun e => by have h9 : some g = some c := e; cases h9; omega))).alloc (.cells #[.int .i64 k, .slice (some ⟨g, 0, none⟩) l.length cp, .string ⟨b.toArray⟩] 31))
  have hca := cur_alloc hc3 (.cells #[.int .i64 k, .slice (some ⟨g, 0, none⟩) l.length cp, .string ⟨b.toArray⟩] 31)
  have hya := bytes_alloc hy3 (.cells #[.int .i64 k, .slice (some ⟨g, 0, none⟩) l.length cp, .string ⟨b.toArray⟩] 31)
  have HBY := Lib.hid (box3_new w3 (.int .i64 k) (.slice (some ⟨g, 0, none⟩) l.length cp) (.string ⟨b.toArray⟩) 31)
  have hs3 := hg3.size
  have hcw3 := cur_lt hc3
  clear hb hy2 hc3 hy3 hg3 HO2 HG2 H3
  go_wp2_with (fail)
  go_at_call 68
  refine (once_any c B bv 9 _ hca hya hB (by omega)).mono ?_
  rintro e w5 ⟨q, rfl, hc5, hg5⟩
  have HO5 := Lib.hid (HO3.out.kept hg5 (Or.inr (fun e => by have h9 : some g = some c := e; cases h9; omega)))
  have HG5 := Lib.hid (gb_trans HG3.out hg5)
  have HB5 := Lib.hid (blk_far HBY.out hg5 (by omega))
  have HX5 := Lib.hid (blk_far HBX.out HG5.out (by omega))
  have HC5 := Lib.hid hc5
  have hs5 := hg5.size
  rw [World.size_alloc] at hs5
  clear hca hya HO3 HBY HG3 hg5 hc5
  have hne : w.heap.size ≠ c := by omega
  have hne2 : w.heap.size ≠ w3.heap.size := by omega
  cases q with
  | false =>
    obtain ⟨⟨x0, x1, x2⟩, ⟨f0, f1, f2⟩⟩ := box3 HX5.out
    obtain ⟨⟨y0, y1, y2⟩, _⟩ := box3 HB5.out
    have HGW := Lib.hid (gb_trans HG0.out HG5.out)
    have HNE : Hid (∀ j, (Value.slice (some ⟨g, 0, none⟩) l.length cp).ownBlock = some j → j ≠ w.heap.size) := Lib.hid (fun j e => by have h9 : some g = some j := e; cases h9; omega)
    have HF6 : Hid (Few6 l) := Lib.hid ⟨Nat.le_trans HF.out.1 (by decide), HF.out.2⟩
    go_wp2
    have HGG := Lib.hid (gb_own (gb_own (gb_own HGW.out (gb_set _ w.heap.size 0 (.int .i64 k)) (fun k e => by cases e; exact Nat.le_refl _)) (gb_set _ w.heap.size 1 (.slice (some ⟨g, 0, none⟩) l.length cp)) (fun k e => by cases e; exact Nat.le_refl _)) (gb_set _ w.heap.size 2 (.string ⟨b.toArray⟩)) (fun k e => by cases e; exact Nat.le_refl _))
    have HCC := Lib.hid (cur_row (cur_row (cur_row HC5.out (gb_set _ w.heap.size 0 (.int .i64 k)) (fun k e => by cases e; exact hne)) (gb_set _ w.heap.size 1 (.slice (some ⟨g, 0, none⟩) l.length cp)) (fun k e => by cases e; exact hne)) (gb_set _ w.heap.size 2 (.string ⟨b.toArray⟩)) (fun k e => by cases e; exact hne))
    have HOO := Lib.hid (Flds.own_mono (own_put1 (u := .string ⟨b.toArray⟩) (o := 2) (own_put1 (u := .slice (some ⟨g, 0, none⟩) l.length cp) (o := 1) (own_put1 (u := .int .i64 k) (o := 0) HO5.out HNE.out) HNE.out) HNE.out) (B' := w.heap.size) (by omega))
    refine bodyPost_ret (v := .agg #[.int .i64 k, .slice (some ⟨g, 0, none⟩) l.length cp, .string ⟨b.toArray⟩]) (by simp [results, Tryz.results42, go_sem, x0, x1, x2]) rfl ⟨k, _, l, b, rfl, ⟨HK.out.1, HK.out.2, HF6.out, HBL.out⟩, HOO.out, HCC.out, HGG.out⟩
  | true =>
    obtain ⟨⟨y0, y1, y2⟩, ⟨e0, e1, e2⟩⟩ := box3 HB5.out
    have hL := Flds.fcs_len l
    have hl5 := HF.out.1
    have hown := HO5.out
    clear HO5
    have hrow : ∀ j, (Value.slice (some ⟨g, 0, none⟩) l.length cp).ownBlock = some j → w1.heap.size ≤ j ∧ j ≠ w3.heap.size := fun j e => by have h9 : some g = some j := e; cases h9; exact ⟨hg21, by omega⟩
    have HROW := Lib.hid hrow
    clear hrow
    go_wp2_with (at_builtin; refine wpList_append_own _ rfl _ _ 22 rfl w1.heap.size 48 i0 (.agg #[.string ⟨#[]⟩, .string ⟨#[]⟩]) 2 32 Tryz.underlying22 hi hz0 hz1 hz2 rfl (by decide) _ _ _ rfl (hown.alloc _) ⟨w5.heap.size, 0, none⟩ 1 1 [Flds.sv [99, 111, 110, 116, 101, 110, 116, 45, 108, 101, 110, 103, 116, 104], Flds.sv [50]] rfl rfl (Flds.news_two _ _ _ _) (Flds.two_one ([99, 111, 110, 116, 101, 110, 116, 45, 108, 101, 110, 103, 116, 104], [50])) (by unfold maxLen; omega) (by omega) (by simp; omega) ?_; intro v1 w6 hown1 hg1 _; obtain ⟨g1, cp1, hv1⟩ := sh_own hown1 (Nat.succ_pos _); subst hv1; clear y0 y1 y2 e0 e1 e2; have HB6 := Lib.hid (blk_row (blk_alloc (q := .cells #[Flds.sv [99, 111, 110, 116, 101, 110, 116, 45, 108, 101, 110, 103, 116, 104], Flds.sv [50]] 48) HB5.out) hg1 (fun j e => (HROW.out j e).2)); have HX6 := Lib.hid (blk_row (blk_alloc (q := .cells #[Flds.sv [99, 111, 110, 116, 101, 110, 116, 45, 108, 101, 110, 103, 116, 104], Flds.sv [50]] 48) HX5.out) hg1 (fun j e => by have := (HROW.out j e).1; omega)); have HC6 := Lib.hid (cur_row (cur_alloc HC5.out (.cells #[Flds.sv [99, 111, 110, 116, 101, 110, 116, 45, 108, 101, 110, 103, 116, 104], Flds.sv [50]] 48)) hg1 (fun j e => by have := (HROW.out j e).1; omega)); have HGW := Lib.hid (gb_own (gb_trans (gb_trans HG0.out HG5.out) (World.grownBy_alloc w5 (.cells #[Flds.sv [99, 111, 110, 116, 101, 110, 116, 45, 108, 101, 110, 103, 116, 104], Flds.sv [50]] 48) _)) hg1 (fun j e => by have := (HROW.out j e).1; omega)); have HOWN := Lib.hid hown1; obtain ⟨⟨z0, z1, z2⟩, ⟨h0, h1, h2⟩⟩ := box3 HB6.out; obtain ⟨⟨x0, x1, x2⟩, ⟨f0, f1, f2⟩⟩ := box3 HX6.out; clear hown1 hg1 hown HB5 HX5 HC5 HG5 HG0)
    have hz1' : (l ++ [([99, 111, 110, 116, 101, 110, 116, 45, 108, 101, 110, 103, 116, 104], [50])]).length = l.length + 1 := by simp
    have R : Hid (Flds.Own w6 w1.heap.size (.slice (some ⟨g1, 0, none⟩) (l.length + 1) cp1) (l ++ [([99, 111, 110, 116, 101, 110, 116, 45, 108, 101, 110, 103, 116, 104], [50])])) := Lib.hid (by show w6.ownsRow _ _ _ _ (l ++ [([99, 111, 110, 116, 101, 110, 116, 45, 108, 101, 110, 103, 116, 104], [50])]).length (Flds.fcs (l ++ [([99, 111, 110, 116, 101, 110, 116, 45, 108, 101, 110, 103, 116, 104], [50])])); rw [List.length_append, Flds.fcs_more]; exact HOWN.out)
    have hg1b := (R.out.lt g1 rfl).1
    have hg1n : g1 ≠ w3.heap.size := by
      intro e9
      have hr := R.out
      unfold Flds.Own at hr
      rw [hz1'] at hr
      obtain ⟨d0, d1⟩ := Flds.own_cell (g := g1) hr (j := 0) (by omega)
      have h8 := (box3 HB6.out).1.1
      rw [e9] at d0
      rw [h8] at d0
      cases d0
    have HF6 : Hid (Few6 (l ++ [([99, 111, 110, 116, 101, 110, 116, 45, 108, 101, 110, 103, 116, 104], [50])])) := Lib.hid ⟨by rw [hz1']; have := HF.out.1; omega, fun f hf => by
      rcases List.mem_append.1 hf with hf | hf
      · exact HF.out.2 f hf
      · rw [List.mem_singleton] at hf; subst hf; exact ⟨by decide, by decide⟩⟩
    have HN1 : Hid (∀ j, (Value.slice (some ⟨g1, 0, none⟩) (l.length + 1) cp1).ownBlock = some j → j ≠ w3.heap.size) := Lib.hid (fun j e => by have h9 : some g1 = some j := e; cases h9; exact hg1n)
    have HN2 : Hid (∀ j, (Value.slice (some ⟨g1, 0, none⟩) (l.length + 1) cp1).ownBlock = some j → j ≠ w.heap.size) := Lib.hid (fun j e => by have h9 : some g1 = some j := e; cases h9; omega)
    have HGG := Lib.hid (gb_own (gb_own (gb_own (gb_own HGW.out (gb_set _ w3.heap.size 1 (.slice (some ⟨g1, 0, none⟩) (l.length + 1) cp1)) (fun k e => by cases e; omega)) (gb_set _ w.heap.size 0 (.int .i64 k)) (fun k e => by cases e; exact Nat.le_refl _)) (gb_set _ w.heap.size 1 (.slice (some ⟨g1, 0, none⟩) (l.length + 1) cp1)) (fun k e => by cases e; exact Nat.le_refl _)) (gb_set _ w.heap.size 2 (.string ⟨b.toArray⟩)) (fun k e => by cases e; exact Nat.le_refl _))
    have HCC := Lib.hid (cur_row (cur_row (cur_row (cur_row HC6.out (gb_set _ w3.heap.size 1 (.slice (some ⟨g1, 0, none⟩) (l.length + 1) cp1)) (fun k e => by cases e; omega)) (gb_set _ w.heap.size 0 (.int .i64 k)) (fun k e => by cases e; exact hne)) (gb_set _ w.heap.size 1 (.slice (some ⟨g1, 0, none⟩) (l.length + 1) cp1)) (fun k e => by cases e; exact hne)) (gb_set _ w.heap.size 2 (.string ⟨b.toArray⟩)) (fun k e => by cases e; exact hne))
    have HOO := Lib.hid (Flds.own_mono (own_put1 (u := .string ⟨b.toArray⟩) (o := 2) (own_put1 (u := .slice (some ⟨g1, 0, none⟩) (l.length + 1) cp1) (o := 1) (own_put1 (u := .int .i64 k) (o := 0) (own_put1 (u := .slice (some ⟨g1, 0, none⟩) (l.length + 1) cp1) (o := 1) R.out HN1.out) HN2.out) HN2.out) HN2.out) (B' := w.heap.size) (by omega))
    refine bodyPost_ret (v := .agg #[.int .i64 k, .slice (some ⟨g1, 0, none⟩) (l.length + 1) cp1, .string ⟨b.toArray⟩]) (by simp [results, Tryz.results42, go_sem, x0, x1, x2]) rfl ⟨k, _, l ++ [([99, 111, 110, 116, 101, 110, 116, 45, 108, 101, 110, 103, 116, 104], [50])], b, rfl, ⟨HK.out.1, HK.out.2, HF6.out, HBL.out⟩, HOO.out, HCC.out, HGG.out⟩

def OneReq (w : World) (e : Ending) (w' : World) : Prop := ∃ (m h t : List UInt8) (v : Value) (l : List Flds.Fld), e = .returned (.agg #[.string ⟨m.toArray⟩, .string ⟨h.toArray⟩, .string ⟨t.toArray⟩, v]) ∧ ReqS m h t l ∧ Flds.Own w' w.heap.size v l ∧ Below w.heap.size w w'
def OneRsp (w : World) (e : Ending) (w' : World) : Prop := ∃ (k : Int) (v : Value) (l : List Flds.Fld) (b : List UInt8), e = .returned (.agg #[.int .i64 k, v, .string ⟨b.toArray⟩]) ∧ (0 ≤ k ∧ k ≤ 600 ∧ Few6 l ∧ b.length ≤ 20) ∧ Flds.Own w' w.heap.size v l ∧ Below w.heap.size w w'
set_option maxHeartbeats 4000000 in
theorem draw_fq (B : Nat) (bv : Value) (w : World) (hby : Bytes w B bv) (hB : B ≤ w.heap.size) :
    Calls Tryz.prog 17 #[bv] w (OneReq w) := by
  have hy0 := bytes_alloc hby (.cells #[.string ⟨#[]⟩, .string ⟨#[]⟩, .string ⟨#[]⟩, .slice none 0 0] 24)
  have hbx := box4_new w (.string ⟨#[]⟩) (.string ⟨#[]⟩) (.string ⟨#[]⟩) (.slice none 0 0) 24
  have hbw : Below w.heap.size w (w.alloc (.cells #[.string ⟨#[]⟩, .string ⟨#[]⟩, .string ⟨#[]⟩, .slice none 0 0] 24)) := (Below.refl _ _).alloc (Nat.le_refl _) _
  have hsz : (w.alloc (.cells #[.string ⟨#[]⟩, .string ⟨#[]⟩, .string ⟨#[]⟩, .slice none 0 0] 24)).heap.size = w.heap.size + 1 := by simp
  have HMC := Lib.hid (fun h => made_cur bv h (w.alloc (.cells #[.string ⟨#[]⟩, .string ⟨#[]⟩, .string ⟨#[]⟩, .slice none 0 0] 24)))
  rw [hsz] at HMC
  have HBX := Lib.hid hbx
  have HBW := Lib.hid hbw
  clear hbx hbw
  go_enter Tryz.func17, Tryz.ntmps17
  go_wp2_with (fail)
  go_at_call 39
  refine (new_any B bv _ hy0).mono ?_
  rintro e w1 ⟨h, rfl, rfl⟩
  have hcu := HMC.out h
  have hby1 := bytes_alloc hy0 (.cells #[bv, .int .i64 0, .int .i64 h] 81)
  have HB1 := Lib.hid (HBW.out.alloc (by rw [hsz]; omega) (.cells #[bv, .int .i64 0, .int .i64 h] 81))
  have HX1 := Lib.hid ((Below.heap_alloc _ (.cells #[bv, .int .i64 0, .int .i64 h] 81) _ (show w.heap.size < (w.alloc (.cells #[.string ⟨#[]⟩, .string ⟨#[]⟩, .string ⟨#[]⟩, .slice none 0 0] 24)).heap.size by rw [hsz]; omega)).trans HBX.out)
  have hs1 : ((w.alloc (.cells #[.string ⟨#[]⟩, .string ⟨#[]⟩, .string ⟨#[]⟩, .slice none 0 0] 24)).alloc (.cells #[bv, .int .i64 0, .int .i64 h] 81)).heap.size = w.heap.size + 2 := by simp
  have HS1 := Lib.hid hs1
  clear hy0 HMC HBX HBW hs1 hsz
  go_wp2_with (fail)
  go_at_call 40
  refine (req_any (w.heap.size + 1) B bv _ hcu hby1 (by omega)).mono ?_
  rintro e w2 ⟨m, hh, t, v, l, rfl, hrs, ⟨g, cp, rfl⟩, ho, hc2, hg2⟩
  rw [HS1.out] at ho
  obtain ⟨⟨x0, x1, x2, x3⟩, ⟨f0, f1, f2, f3⟩⟩ := box4 (blk_far HX1.out hg2 (by omega))
  have HBB := Lib.hid (below_gb HB1.out hg2 HB1.out.size (by omega))
  have HR := Lib.hid hrs
  have HO := Lib.hid ho
  have HNE : Hid (∀ j, (Value.slice (some ⟨g, 0, none⟩) l.length cp).ownBlock = some j → j ≠ w.heap.size) := Lib.hid (fun j e => by have h9 := (HO.out.lt j e).1; omega)
  clear hcu hby1 hg2 hrs ho hc2
  go_wp2
  have HOO := Lib.hid (Flds.own_mono (own_put1 (u := .slice (some ⟨g, 0, none⟩) l.length cp) (o := 3) (own_put1 (u := .string ⟨t.toArray⟩) (o := 2) (own_put1 (u := .string ⟨hh.toArray⟩) (o := 1) (own_put1 (u := .string ⟨m.toArray⟩) (o := 0) HO.out HNE.out) HNE.out) HNE.out) HNE.out) (B' := w.heap.size) (by omega))
  refine bodyPost_ret (v := .agg #[.string ⟨m.toArray⟩, .string ⟨hh.toArray⟩, .string ⟨t.toArray⟩, .slice (some ⟨g, 0, none⟩) l.length cp]) (by simp [results, Tryz.results17, go_sem, x0, x1, x2, x3]) rfl ⟨m, hh, t, _, l, rfl, HR.out, HOO.out, Below.setCell (Below.setCell (Below.setCell (Below.setCell HBB.out (Nat.le_refl _) _) (Nat.le_refl _) _) (Nat.le_refl _) _) (Nat.le_refl _) _⟩

set_option maxHeartbeats 4000000 in
theorem draw_fr (B : Nat) (bv : Value) (w : World) (hby : Bytes w B bv) (hB : B ≤ w.heap.size) :
    Calls Tryz.prog 19 #[bv] w (OneRsp w) := by
  have hy0 := bytes_alloc hby (.cells #[.int .i64 0, .slice none 0 0, .string ⟨#[]⟩] 31)
  have hbx := box3_new w (.int .i64 0) (.slice none 0 0) (.string ⟨#[]⟩) 31
  have hbw : Below w.heap.size w (w.alloc (.cells #[.int .i64 0, .slice none 0 0, .string ⟨#[]⟩] 31)) := (Below.refl _ _).alloc (Nat.le_refl _) _
  have hsz : (w.alloc (.cells #[.int .i64 0, .slice none 0 0, .string ⟨#[]⟩] 31)).heap.size = w.heap.size + 1 := by simp
  have HMC := Lib.hid (fun h => made_cur bv h (w.alloc (.cells #[.int .i64 0, .slice none 0 0, .string ⟨#[]⟩] 31)))
  rw [hsz] at HMC
  have HBX := Lib.hid hbx
  have HBW := Lib.hid hbw
  clear hbx hbw
  go_enter Tryz.func19, Tryz.ntmps19
  go_wp2_with (fail)
  go_at_call 39
  refine (new_any B bv _ hy0).mono ?_
  rintro e w1 ⟨h, rfl, rfl⟩
  have hcu := HMC.out h
  have hby1 := bytes_alloc hy0 (.cells #[bv, .int .i64 0, .int .i64 h] 81)
  have HB1 := Lib.hid (HBW.out.alloc (by rw [hsz]; omega) (.cells #[bv, .int .i64 0, .int .i64 h] 81))
  have HX1 := Lib.hid ((Below.heap_alloc _ (.cells #[bv, .int .i64 0, .int .i64 h] 81) _ (show w.heap.size < (w.alloc (.cells #[.int .i64 0, .slice none 0 0, .string ⟨#[]⟩] 31)).heap.size by rw [hsz]; omega)).trans HBX.out)
  have hs1 : ((w.alloc (.cells #[.int .i64 0, .slice none 0 0, .string ⟨#[]⟩] 31)).alloc (.cells #[bv, .int .i64 0, .int .i64 h] 81)).heap.size = w.heap.size + 2 := by simp
  have HS1 := Lib.hid hs1
  clear hy0 HMC HBX HBW hs1 hsz
  go_wp2_with (fail)
  go_at_call 42
  refine (rsp_any (w.heap.size + 1) B bv _ hcu hby1 (by omega)).mono ?_
  rintro e w2 ⟨k, v, l, b, rfl, hrs, ho, hc2, hg2⟩
  rw [HS1.out] at ho
  obtain ⟨av, cv, rfl, _⟩ := Rec.shape_at ho
  obtain ⟨⟨x0, x1, x2⟩, ⟨f0, f1, f2⟩⟩ := box3 (blk_far HX1.out hg2 (by omega))
  have HBB := Lib.hid (below_gb HB1.out hg2 HB1.out.size (by omega))
  have HR := Lib.hid hrs
  have HO := Lib.hid ho
  have HNE : Hid (∀ j, (Value.slice av l.length cv).ownBlock = some j → j ≠ w.heap.size) := Lib.hid (fun j e => by have h9 := (HO.out.lt j e).1; omega)
  clear hcu hby1 hg2 hrs ho hc2
  go_wp2
  have HOO := Lib.hid (Flds.own_mono (own_put1 (u := .string ⟨b.toArray⟩) (o := 2) (own_put1 (u := .slice av l.length cv) (o := 1) (own_put1 (u := .int .i64 k) (o := 0) HO.out HNE.out) HNE.out) HNE.out) (B' := w.heap.size) (by omega))
  refine bodyPost_ret (v := .agg #[.int .i64 k, .slice av l.length cv, .string ⟨b.toArray⟩]) (by simp [results, Tryz.results19, go_sem, x0, x1, x2]) rfl ⟨k, _, l, b, rfl, HR.out, HOO.out, Below.setCell (Below.setCell (Below.setCell HBB.out (Nat.le_refl _) _) (Nat.le_refl _) _) (Nat.le_refl _) _⟩
end Go.Proofs.YtfkejnbkglaokaaGreatDoor.Cur

/-
  CONTRACT of the program's filterFields, at any closure with one captured variable that only reads: it returns, in new memory, the fields that the closure keeps; nothing that was there before is changed.
-/
namespace Go.Proofs.YtfkejnbkglaokaaGreatDoor.Flds
open Go Go.RowKit
set_option linter.unusedVariables false
set_option maxRecDepth 1000000

theorem filt_more {p : Fld → Bool} {l : List Fld} {k : Nat} (h : k < l.length) : (l.take (k + 1)).filter p = if p (l.getD k nofld) = true then (l.take k).filter p ++ [l.getD k nofld] else (l.take k).filter p := by
  rw [List.take_succ_eq_append_getElem h, List.filter_append]
  have e : l.getD k nofld = l[k] := by simp [List.getD, h]
  rw [e]
  by_cases hp : p l[k] = true
  · simp [hp]
  · simp [hp]
theorem filt_le (p : Fld → Bool) (l : List Fld) (k : Nat) : ((l.take k).filter p).length ≤ l.length := by
  have h1 := List.length_filter_le p (l.take k); have h2 := List.length_take_le' k l; omega

def FilterEnd (l : List Fld) (w : World) (e : Ending) (w' : World) : Prop := ∃ v, e = .returned v ∧ Own w' w.heap.size v l ∧ Below w.heap.size w w'
/-- K is a function with a body. -/
def Enters (K : FuncId) : Prop := ∀ (args : Array Value) (w : World), Sem.run Tryz.prog (callFunc K args) w = .ok (.enter K args) w
/-- What a closure that keeps by 'p' does, at every world that has only grown. -/
def Keeps (K : FuncId) (q : Value) (p : Fld → Bool) (w : World) : Prop := ∀ (x y : List UInt8) (wx : World), Below w.heap.size w wx → Calls Tryz.prog K #[.agg #[.string ⟨x.toArray⟩, .string ⟨y.toArray⟩], q] wx fun e w' => e = .returned (.bool (p (x, y))) ∧ Below wx.heap.size wx w'

theorem alloc_two (w : World) (x y : Value) (T : TypeId) : (w.alloc (.cells #[x, y] T)).cell? ⟨w.heap.size, 0, none⟩ = some x ∧ (w.alloc (.cells #[x, y] T)).cell? ⟨w.heap.size, 1, none⟩ = some y := ⟨by rw [World.cell?_alloc_new]; rfl, by rw [World.cell?_alloc_new]; rfl⟩

/-! The closures of GetField and DropField: one captured text. -/
end Go.Proofs.YtfkejnbkglaokaaGreatDoor.Flds
