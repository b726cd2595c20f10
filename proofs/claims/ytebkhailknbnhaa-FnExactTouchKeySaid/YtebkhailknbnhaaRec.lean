/-
  PLAIN FACTS on slices of structs whose fields are one cell each, whatever the struct ('cs a': the cells of a; n: how many; z: the zero): what a slice holds, how that is kept, how a slice that the call itself has built is such a one, and how its places are filled.
-/
import Derived.Test.YtebkhailknbnhaaBase
import Derived.ChangeSlices
import Derived.ChangeArms
import Derived.OwnWalk
import Derived.Laws.OwnMore
import Derived.Laws.AppendOwn
import Derived.Deep.Slices
import Derived.OneCell
namespace Go.Proofs.Ytebkhailknbnhaa.Rec
open Go Go.RowKit
set_option linter.unusedVariables false
set_option maxRecDepth 1000000

def flat {α : Type} (cs : α → List Value) (l : List α) : List Value := l.flatMap cs
/-- Values set one behind the other, from place o on. -/
def put (xs : List Value) (o : Nat) : List Value → List Value
  | [] => xs
  | u :: us => put (xs.set o u) (o + 1) us
theorem put_right (xs ys us : List Value) (o : Nat) : put (xs ++ ys) (xs.length + o) us = xs ++ put ys o us := by
  induction us generalizing ys o with
  | nil => rfl
  | cons u us ih =>
    show put ((xs ++ ys).set (xs.length + o) u) (xs.length + o + 1) us = xs ++ put (ys.set o u) (o + 1) us
    rw [List.set_append_right _ _ (by omega), show xs.length + o - xs.length = o by omega, Nat.add_assoc, ih]
theorem put_full (bs ys us : List Value) (h : us.length = bs.length) : put (bs ++ ys) 0 us = us ++ ys := by
  induction us generalizing bs with
  | nil => have : bs = [] := List.eq_nil_of_length_eq_zero h.symm; subst this; rfl
  | cons u us ih =>
    cases bs with
    | nil => simp at h
    | cons b bs =>
      show put (u :: (bs ++ ys)) (0 + 1) us = u :: us ++ ys
      have h1 := put_right [u] (bs ++ ys) us 0
      simp only [List.length_singleton, List.cons_append, List.nil_append] at h1
      rw [show (0 + 1 : Nat) = 1 + 0 by rfl, h1, ih bs (by simpa using h)]; rfl

section
variable {α : Type} {n : Nat} {cs : α → List Value} {z : α}
theorem flat_len (hl : ∀ a, (cs a).length = n) (l : List α) : (flat cs l).length = l.length * n := by
  unfold flat
  induction l with
  | nil => simp
  | cons a r ih => rw [List.flatMap_cons, List.length_append, ih, hl, List.length_cons, Nat.succ_mul]; omega
theorem flat_more (l : List α) (a : α) : flat cs (l ++ [a]) = flat cs l ++ cs a := by unfold flat; simp
theorem flat_append (l r : List α) : flat cs (l ++ r) = flat cs l ++ flat cs r := by unfold flat; simp
theorem flat_at (hl : ∀ a, (cs a).length = n) {l : List α} {j i : Nat} {u : Value} (h : j < l.length) (hu : (cs (l.getD j z))[i]? = some u) : (flat cs l)[j * n + i]? = some u := by
  unfold flat
  induction l generalizing j with
  | nil => simp at h
  | cons a r ih =>
    cases j with
    | zero =>
      have hu' : (cs a)[i]? = some u := hu
      rw [List.flatMap_cons, Nat.zero_mul, Nat.zero_add, List.getElem?_append_left (by exact (List.getElem?_eq_some_iff.1 hu').1)]
      exact hu'
    | succ j =>
      rw [List.flatMap_cons, List.getElem?_append_right (by rw [hl, Nat.succ_mul]; omega), hl, show (j + 1) * n + i - n = j * n + i by rw [Nat.succ_mul]; omega]
      exact ih (by simpa using h) hu
theorem flat_one (h1 : ∀ a, ∀ u ∈ cs a, u.oneCell' = true) (l : List α) : ∀ u ∈ flat cs l, u.oneCell' = true := by
  intro u hu
  obtain ⟨f, _, hf⟩ := List.mem_flatMap.1 hu
  exact h1 f u hf
/-- All cells of one place are set. -/
theorem flat_put (hl : ∀ a, (cs a).length = n) {l : List α} {k : Nat} (a : α) (h : k < l.length) : put (flat cs l) (k * n) (cs a) = flat cs (l.set k a) := by
  induction l generalizing k with
  | nil => simp at h
  | cons b r ih =>
    cases k with
    | zero =>
      show put (cs b ++ flat cs r) (0 * n) (cs a) = cs a ++ flat cs r
      rw [Nat.zero_mul, put_full _ _ _ (by rw [hl, hl])]
    | succ k =>
      show put (cs b ++ flat cs r) ((k + 1) * n) (cs a) = cs b ++ flat cs (r.set k a)
      rw [show (k + 1) * n = (cs b).length + k * n by rw [hl, Nat.succ_mul]; omega, put_right, ih (by simpa using h)]

/-- The cells from (b, off) on are these structs. -/
def At (n : Nat) (cs : α → List Value) (z : α) (w : World) (b off : Nat) (l : List α) : Prop := ∀ j, j < l.length → ∀ i u, (cs (l.getD j z))[i]? = some u → w.cell? ⟨b, off + j * n + i, none⟩ = some u
/-- The slice v reads as the structs l; its cells lie below block B. -/
def Holds (n : Nat) (cs : α → List Value) (z : α) (w : World) (B : Nat) (v : Value) (l : List α) : Prop := (l = [] ∧ ∃ a cap, v = .slice a 0 cap) ∨ (0 < l.length ∧ ∃ b off cap, v = .slice (some ⟨b, off, none⟩) l.length cap ∧ b < B ∧ l.length ≤ cap ∧ At n cs z w b off l)
theorem lt_of_cell {w : World} {b o : Nat} {u : Value} (h : w.cell? ⟨b, o, none⟩ = some u) : b < w.heap.size := by
  rcases Nat.lt_or_ge b w.heap.size with h' | h'
  · exact h'
  · simp [World.cell?, Array.getElem?_eq_none h'] at h
theorem at_lt (hl : ∀ a, (cs a).length = n) (hn : 0 < n) {w : World} {b off : Nat} {l : List α} (h : At n cs z w b off l) (h0 : 0 < l.length) : b < w.heap.size := by
  have h1 : 0 < (cs (l.getD 0 z)).length := by rw [hl]; exact hn
  exact lt_of_cell (h 0 h0 0 _ (List.getElem?_eq_getElem h1))
theorem at_below {w w' : World} {B b off : Nat} {l : List α} (h : At n cs z w b off l) (hb : Below B w w') (hlt : b < B) : At n cs z w' b off l := fun j hj i u hu => by
  rw [hb.cell (p := ⟨b, off + j * n + i, none⟩) hlt]; exact h j hj i u hu
theorem holds_more {w : World} {B B' : Nat} {v : Value} {l : List α} (h : Holds n cs z w B v l) (hB : B ≤ B') : Holds n cs z w B' v l := by
  rcases h with h | ⟨h0, b, off, cap, rfl, h2, hc, h1⟩
  · exact Or.inl h
  · exact Or.inr ⟨h0, b, off, cap, rfl, by omega, hc, h1⟩
theorem holds_below {w w' : World} {B : Nat} {v : Value} {l : List α} (h : Holds n cs z w B v l) (hb : Below B w w') : Holds n cs z w' B v l := by
  rcases h with h | ⟨h0, b, off, cap, rfl, hB, hc, h1⟩
  · exact Or.inl h
  · exact Or.inr ⟨h0, b, off, cap, rfl, hB, hc, at_below h1 hb hB⟩
theorem holds_grown {w w' : World} {B : Nat} {v : Value} {l : List α} {row : Option Nat} (h : Holds n cs z w B v l) (hg : w.grownBy w' row) (hr : ∀ k, row = some k → B ≤ k) : Holds n cs z w' B v l := by
  rcases h with h | ⟨h0, b, off, cap, rfl, hB, hc, h1⟩
  · exact Or.inl h
  · exact Or.inr ⟨h0, b, off, cap, rfl, hB, hc, fun j hj i u hu => hg.cell (h1 j hj i u hu) (fun e => by have := hr b e.symm; omega)⟩
theorem own_len (hl : ∀ a, (cs a).length = n) (hn : 0 < n) {w : World} {B : Nat} {T : TypeId} {v : Value} {l : List α} {m : Nat} (h : w.ownsRow B T n v m (flat cs l)) : m = l.length := by
  have := h.1; rw [flat_len hl] at this; exact (Nat.eq_of_mul_eq_mul_right hn this).symm
theorem own_cell (hl : ∀ a, (cs a).length = n) (hn : 0 < n) {w : World} {B g cap : Nat} {T : TypeId} {l : List α} {m : Nat} (h : w.ownsRow B T n (.slice (some ⟨g, 0, none⟩) m cap) m (flat cs l)) {j i : Nat} {u : Value} (hj : j < m) (hu : (cs (l.getD j z))[i]? = some u) : w.cell? ⟨g, j * n + i, none⟩ = some u := by
  have hm := own_len hl hn h
  have h1 := h.cells (g := g) rfl _ _ (flat_at hl (z := z) (l := l) (j := j) (i := i) (u := u) (by omega) hu)
  simpa only [WideShapes.add_plain, Nat.zero_add] using h1
theorem own_holds (hl : ∀ a, (cs a).length = n) (hn : 0 < n) {w : World} {B : Nat} {T : TypeId} {v : Value} {l : List α} (h : w.ownsRow B T n v l.length (flat cs l)) : Holds n cs z w w.heap.size v l := by
  have h' := h
  obtain ⟨hlen, hc⟩ := h
  rcases hc with ⟨rfl, h0⟩ | ⟨g, cap, cur, rfl, hb, hg, hm, hcap, hs, ht⟩
  · exact Or.inl ⟨List.eq_nil_of_length_eq_zero h0, _, _, rfl⟩
  · by_cases h0 : l = []
    · subst h0; exact Or.inl ⟨rfl, _, _, rfl⟩
    · refine Or.inr ⟨List.length_pos_iff.2 h0, g, 0, cap, rfl, (h'.lt g rfl).2, hm, fun j hj i u hu => ?_⟩
      rw [Nat.zero_add]; exact own_cell hl hn h' hj hu
theorem own_mono {w : World} {B B' : Nat} {T : TypeId} {v : Value} {m : Nat} {xs : List Value} (h : w.ownsRow B T n v m xs) (hB : B' ≤ B) : w.ownsRow B' T n v m xs := by
  obtain ⟨hl, hc⟩ := h
  refine ⟨hl, ?_⟩
  rcases hc with h0 | ⟨g, cap, cur, rfl, h1, h2, h3⟩
  · exact Or.inl h0
  · exact Or.inr ⟨g, cap, cur, rfl, by omega, h2, h3⟩
/-- One more struct behind a slice that the call has built. -/
theorem push_own {B : Nat} {T : TypeId} {a w w1 : World} {v v' : Value} {l : List α} {f : α} {o : Obj} (hown : w.ownsRow B T n v l.length (flat cs l)) (hb : Below a.heap.size a w) (hB : a.heap.size ≤ B)
    (h' : w1.ownsRow B T n v' (l.length + 1) (flat cs l ++ cs f)) (hg : (w.alloc o).grownBy w1 v.ownBlock) :
    w1.ownsRow B T n v' (l ++ [f]).length (flat cs (l ++ [f])) ∧ Below a.heap.size a w1 := by
  refine ⟨by rw [List.length_append, flat_more]; exact h', (hb.alloc hb.size o).grown hg (by have := hb.size; simp; omega) (fun k e => Nat.le_trans hB (hown.lt k e).1)⟩
theorem own_lit_nil (w : World) (T : TypeId) : (w.alloc (.cells #[] T)).ownsRow w.heap.size T n (.slice (some ⟨w.heap.size, 0, none⟩) 0 0) ([] : List α).length (flat cs []) := World.ownsRow_lit w #[] 0 (Nat.le_refl _) (by decide) (by simp)

/-- A list of which k places are filled. -/
def part (z : α) (l : List α) (k : Nat) : List α := l.take k ++ List.replicate (l.length - k) z
theorem part_len (l : List α) {k : Nat} (h : k ≤ l.length) : (part z l k).length = l.length := by
  unfold part; rw [List.length_append, List.length_take, List.length_replicate]; omega
theorem part_zero (l : List α) : part z l 0 = List.replicate l.length z := by unfold part; simp
theorem part_all (l : List α) : part z l l.length = l := by unfold part; simp
theorem part_more {l : List α} {k : Nat} (h : k < l.length) : (part z l k).set k (l.getD k z) = part z l (k + 1) := by
  unfold part
  rw [List.set_append_right _ _ (by rw [List.length_take]; omega), List.length_take, show k - min k l.length = 0 by omega,
    show l.length - k = (l.length - (k + 1)) + 1 by omega, List.replicate_succ, List.set_cons_zero, List.take_succ_eq_append_getElem h, List.append_assoc]
  simp [List.getD, h]
theorem made_flat (hl : ∀ a, (cs a).length = n) (hn : 0 < n) (m : Nat) (zc : Array Value) (hz : zc.toList = cs z) : (madeCells zc (m * n)).toList = flat cs (List.replicate m z) := by
  apply List.ext_getElem?
  intro q
  have hsz : zc.size = n := by rw [← Array.length_toList, hz, hl]
  by_cases hq : q < m * n
  · have hj : q / n < m := (Nat.div_lt_iff_lt_mul hn).2 hq
    have hi : q % n < n := Nat.mod_lt _ hn
    have hu : (cs ((List.replicate m z).getD (q / n) z))[q % n]? = some ((cs z)[q % n]'(by rw [hl]; exact hi)) := by
      rw [show (List.replicate m z).getD (q / n) z = z by simp [List.getD, List.getElem?_replicate, hj]]
      exact List.getElem?_eq_getElem _
    have h1 := flat_at hl (z := z) (l := List.replicate m z) (j := q / n) (by rw [List.length_replicate]; exact hj) hu
    rw [Nat.mul_comm, Nat.div_add_mod] at h1
    rw [h1]
    unfold madeCells
    rw [Array.toList_map, List.getElem?_map, Array.toList_range, List.getElem?_range hq]
    have hi2 : q % n < zc.size := by omega
    have hqs : q % zc.size = q % n := by rw [hsz]
    have e2 : zc[q % zc.size]! = zc[q % n]'hi2 := by rw [hqs]; exact getElem!_pos zc (q % n) hi2
    show some (zc[q % zc.size]!) = _
    rw [e2]
    congr 1
    rw [← Array.getElem_toList]
    simp only [hz]
  · rw [List.getElem?_eq_none (by rw [Array.length_toList, size_madeCells]; omega), List.getElem?_eq_none (by rw [flat_len hl, List.length_replicate]; omega)]
theorem made_part (hl : ∀ a, (cs a).length = n) (hn : 0 < n) (l : List α) (zc : Array Value) (hz : zc.toList = cs z) : (madeCells zc (l.length * n)).toList = flat cs (part z l 0) := by
  rw [part_zero]; exact made_flat hl hn l.length zc hz
end
section
variable {α : Type} {z : α}
/-- The size of a list of structs: its texts' lengths and its own. -/
def total (wt : α → Nat) (l : List α) : Nat := (l.map wt).sum + l.length
def pre (wt : α → Nat) (l : List α) (k : Nat) : Nat := ((l.take k).map wt).sum
theorem total_nil (wt : α → Nat) : total wt [] = 0 := rfl
theorem len_le_total (wt : α → Nat) (l : List α) : l.length ≤ total wt l := by unfold total; omega
theorem mem_total (wt : α → Nat) {l : List α} {f : α} (h : f ∈ l) : wt f ≤ total wt l := by
  unfold total
  induction l with
  | nil => cases h
  | cons a r ih =>
    simp only [List.map_cons, List.sum_cons, List.length_cons]
    rcases List.mem_cons.1 h with rfl | h
    · omega
    · have := ih h; omega
theorem total_plain (l : List α) : total (fun _ => 0) l = l.length := by
  unfold total
  have : (l.map fun _ => 0).sum = 0 := by induction l with
    | nil => rfl
    | cons a r ih => simpa using ih
  omega
theorem pre_zero (wt : α → Nat) (l : List α) : pre wt l 0 = 0 := by unfold pre; simp
theorem pre_more (wt : α → Nat) {l : List α} {k : Nat} (h : k < l.length) : pre wt l (k + 1) = pre wt l k + wt (l.getD k z) := by
  unfold pre; rw [List.take_succ_eq_append_getElem h, List.map_append, List.sum_append]; simp [List.getD, h]
theorem pre_all (wt : α → Nat) {l : List α} {k : Nat} (h : k = l.length) : total wt l = pre wt l k + l.length := by unfold pre total; subst h; simp
theorem getD_mem {l : List α} {k : Nat} (h : k < l.length) : l.getD k z ∈ l := by
  rw [show l.getD k z = l[k] by simp [List.getD, h]]; exact List.getElem_mem _

/-- A list whose first j places are what mk says of their index. -/
def mkl (mk : Nat → α) (m : Nat) : List α := (List.range m).map mk
def mks (mk : Nat → α) (l : List α) (j : Nat) : List α := mkl mk j ++ l.drop j
theorem mkl_len (mk : Nat → α) (m : Nat) : (mkl mk m).length = m := by unfold mkl; simp
theorem mkl_at (mk : Nat → α) {m j : Nat} (h : j < m) : (mkl mk m).getD j z = mk j := by unfold mkl; simp [List.getD, h]
theorem mks_zero (mk : Nat → α) (l : List α) : mks mk l 0 = l := by unfold mks mkl; simp
theorem mks_len (mk : Nat → α) {l : List α} {j : Nat} (h : j ≤ l.length) : (mks mk l j).length = l.length := by unfold mks; rw [List.length_append, mkl_len, List.length_drop]; omega
theorem mks_more (mk : Nat → α) {l : List α} {j : Nat} (h : j < l.length) : (mks mk l j).set j (mk j) = mks mk l (j + 1) := by
  unfold mks
  rw [List.set_append_right _ _ (by rw [mkl_len]; exact Nat.le_refl _), mkl_len, Nat.sub_self, List.drop_eq_getElem_cons h, List.set_cons_zero]
  unfold mkl
  rw [List.range_succ, List.map_append, List.append_assoc]; rfl
theorem mks_all (mk : Nat → α) {l : List α} {j : Nat} (h : j = l.length) : mks mk l j = mkl mk l.length := by unfold mks; subst h; simp
end
/-- What is put into place k of a list that is filled from the left. -/
theorem text_of (s : ByteArray) : (Value.string s) = .string ⟨s.data.toList.toArray⟩ := by simp
/-- A struct that stands in a block of its own, as what is put behind a slice. -/
theorem news (w : World) (cs : List Value) (T : TypeId) : ∀ j u, cs[j]? = some u → (w.alloc (.cells cs.toArray T)).cell? ((⟨w.heap.size, 0, none⟩ : Addr).add j) = some u := by
  intro j u hj
  rw [WideShapes.add_plain, Nat.zero_add, World.cell?_alloc_new]
  simpa using hj
/-- What the call has built is kept by what only adds. -/
theorem row_below {w w' : World} {B m : Nat} {T : TypeId} {sz : Nat} {v : Value} {xs : List Value} (h : w.ownsRow B T sz v m xs) (hb : Below w.heap.size w w') : w'.ownsRow B T sz v m xs := by
  obtain ⟨hl, hc⟩ := h
  refine ⟨hl, ?_⟩
  rcases hc with h0 | ⟨g, cap, cur, rfl, h1, h2, h3⟩
  · exact Or.inl h0
  · have hlt : g < w.heap.size := by
      rcases Nat.lt_or_ge g w.heap.size with h' | h'
      · exact h'
      · rw [Array.getElem?_eq_none h'] at h2; cases h2
    exact Or.inr ⟨g, cap, cur, rfl, h1, by rw [hb.block g hlt]; exact h2, h3⟩
theorem row_grown {w w' : World} {B m : Nat} {T : TypeId} {sz : Nat} {v : Value} {xs : List Value} {row : Option Nat} (h : w.ownsRow B T sz v m xs) (hg : w.grownBy w' row) (hr : ∀ g, v.ownBlock = some g → some g ≠ row) : w'.ownsRow B T sz v m xs := by
  obtain ⟨hl, hc⟩ := h
  refine ⟨hl, ?_⟩
  rcases hc with h0 | ⟨g, cap, cur, rfl, h1, h2, h3⟩
  · exact Or.inl h0
  · have hlt : g < w.heap.size := by
      rcases Nat.lt_or_ge g w.heap.size with h' | h'
      · exact h'
      · rw [Array.getElem?_eq_none h'] at h2; cases h2
    exact Or.inr ⟨g, cap, cur, rfl, h1, by rw [hg.block g hlt (hr g rfl)]; exact h2, h3⟩
theorem row_apart {w : World} {B B' n n' : Nat} {T T' : TypeId} {sz sz' : Nat} {v v' : Value} {xs xs' : List Value} (h : w.ownsRow B T sz v n xs) (h' : w.ownsRow B' T' sz' v' n' xs') (hT : T ≠ T') : ∀ g, v.ownBlock = some g → some g ≠ v'.ownBlock := by
  intro g hg hg'
  rcases h.2 with ⟨rfl, _⟩ | ⟨a, cap, cur, rfl, _, h2, _⟩
  · cases hg
  · rcases h'.2 with ⟨rfl, _⟩ | ⟨a', cap', cur', rfl, _, h2', _⟩
    · cases hg'
    · cases hg; cases hg'
      rw [h2] at h2'
      simp at h2'
      exact hT h2'.2
/-- What the call has built is kept where a cell of a younger block is written. -/
theorem own_set {w : World} {B n g : Nat} {T : TypeId} {sz : Nat} {v : Value} {xs : List Value} (h : w.ownsRow B T sz v n xs) (hlt : ∀ k, v.ownBlock = some k → k < g) (o : Nat) (u : Value) : (w.setCell ⟨g, o, none⟩ u).ownsRow B T sz v n xs :=
  ownsRow_setCell_other h (fun e => by have := hlt g e; omega) u
theorem grown_trans {a b c : World} {row : Option Nat} (h : a.grownBy b row) (k : b.grownBy c row) : a.grownBy c row := ⟨k.os.trans h.os, k.tape.trans h.tape, k.output.trans h.output, Nat.le_trans h.size k.size, fun i hi hr => (k.block i (Nat.lt_of_lt_of_le hi h.size) hr).trans (h.block i hi hr)⟩
theorem grown_of_below {a b : World} {row : Option Nat} (h : Below a.heap.size a b) : a.grownBy b row := ⟨h.os, h.tape, h.output, h.size, fun i hi _ => h.block i hi⟩
theorem shape_at {w : World} {B : Nat} {v : Value} {T : TypeId} {s m : Nat} {xs : List Value} (h : w.ownsRow B T s v m xs) : ∃ a cap, v = .slice a m cap ∧ (0 < m → ∃ g, a = some ⟨g, 0, none⟩) := by
  rcases h.2 with ⟨rfl, h0⟩ | ⟨g, cap, cur, rfl, _⟩
  · exact ⟨none, 0, by rw [h0], fun h' => by omega⟩
  · exact ⟨_, cap, rfl, fun _ => ⟨g, rfl⟩⟩
theorem below_drew {B : Nat} {a w : World} (h : Below B a w) : Below B a w.drew := ⟨h.os, h.tape, h.output, h.size, h.block⟩
theorem below_drewN {B : Nat} {a w : World} (h : Below B a w) (n : Nat) : Below B a (w.drewN n) := ⟨h.os, h.tape, h.output, h.size, h.block⟩
theorem below_of_drew {B : Nat} {w w' : World} (h : Below B w.drew w') : Below B w w' := ⟨h.os, h.tape, h.output, h.size, h.block⟩
theorem ret_nat {a b : Nat} (h : a = b) : Ending.returned (.int .i64 (a : Int)) = .returned (.int .i64 (b : Int)) := by rw [h]
def Yes (w : World) (e : Ending) (w' : World) : Prop := e = .returned (.bool true) ∧ Below w.heap.size w w'
end Go.Proofs.Ytebkhailknbnhaa.Rec
