/-
  CONTRACTS AND PLAIN FACTS, several texts in one; each says in its own words what it proves.
-/
import Derived.Test.YtobhdfkhfmpdlaaDoorPartB
import Derived.Laws.OwnMore
import Derived.Tactics
import Derived.Test.YtobhdfkhfmpdlaaDoorPartA
import Derived.ArgAppend
import Derived.WideShapes
import Derived.Laws.Append
import Derived.Laws.AppendOwn
import Derived.Deep.AppendLies
import Derived.Deep.RegionHeldLaw
import Derived.RegionTactic
import Derived.Deep.RegionWith
set_option linter.unusedSimpArgs false
set_option linter.unusedVariables false

/-
  A LAW FOR append(built, given...): what the call has built, and behind it a slice that reads as a list of structs, whether nil, empty or not.
-/
namespace Go.Proofs.YtobhdfkhfmpdlaaDoor.Rec
open Go Go.RowKit
set_option linter.unusedVariables false
set_option maxRecDepth 1000000

theorem run_append_zero {P : Program} {w : World} {base n size c : Nat} {t ty e : TypeId} {i : TypeInfo} {v : Value} {xs : List Value} (hown : w.ownsRow base e size v n xs) (hi : P.info? e = some i) (ht : P.underlying t = some (.slice e)) :
    (Builtin.append_ #[t, t] ty #[v, .slice none 0 c]).run P w = .ok v w := by
  have hu := run_underlying ht
  cases hown.2 with
  | inl h => obtain ⟨rfl, rfl⟩ := h; simp [Builtin.lenOf, Builtin.firstCells, Builtin.append_, sizeOf, typeInfo, hu, hi]
  | inr h => obtain ⟨g, cap, cur, rfl, _, _, hnc, _⟩ := h; simp [Builtin.lenOf, Builtin.firstCells, Builtin.append_, sizeOf, typeInfo, storeCells, hu, hi, hnc]
section
variable {α : Type} {n : Nat} {cs : α → List Value} {z : α}
theorem wp_append_holds (hl : ∀ a, (cs a).length = n) (h1 : ∀ a, ∀ u ∈ cs a, u.oneCell' = true) {P : Program} {w : World} {o : Oper} {a : Act} {K : Act → World → Prop} {Q : Exit → Act → World → Prop}
    (s x : Operand) (t e : TypeId) (ho : o.op = .call { callee := .builtin .append, args := #[s, x], argTypes := #[t, t] }) (ht : P.underlying t = some (.slice e))
    {i : TypeInfo} (hi : P.info? e = some i) {zv : Value} (hz : i.zero = some zv) {bytes : Nat} (hsize : i.size = n) (hby : i.bytes = bytes) (hzs : zv.cells.size = n) (hsz : 0 < n)
    {B base : Nat} {v vx : Value} {l m : List α} (hs : a.eval s = v) (hx : a.eval x = vx) (hown : w.ownsRow base e n v l.length (flat cs l)) (hm : Holds n cs z w B vx m)
    (h63 : l.length + m.length ≤ maxLen) (hbytes : (l.length + m.length) * bytes ≤ 140737488355328) (hbase : base ≤ w.heap.size)
    (h : ∀ v' w', w'.ownsRow base e n v' (l ++ m).length (flat cs (l ++ m)) → w.grownBy w' v.ownBlock → K (a.put o.dst v') w') : o.wp P a w K Q := by
  have key : ∀ (ad : Addr) (cap : Nat), vx = .slice (some ad) m.length cap → (∀ j u, (flat cs m)[j]? = some u → w.cell? (ad.add j) = some u) → o.wp P a w K Q := fun ad cap hv hc =>
    wp_append_own w s x t ho base e i zv n bytes ht hi hz hsize hby hzs hsz v l.length (flat cs l) hs hown ad m.length cap (flat cs m) (hx.trans hv) (flat_len hl m) hc (flat_one h1 m) h63 hbytes hbase
      fun v' w' h2 h3 _ => h v' w' (by rw [List.length_append, flat_append]; exact h2) h3
  rcases hm with ⟨rfl, ad, cap, rfl⟩ | ⟨h0, b, off, cap, rfl, hB, hc, hcell⟩
  · cases ad with
    | some ad => exact key ad cap rfl (fun j u hu => by simp [flat] at hu)
    | none =>
      have hh := h v w (by simpa using hown) (World.grownBy.refl w _)
      have hr := run_append_zero (P := P) (ty := o.type) (c := cap) hown hi ht
      unfold Oper.wp
      simp [hs, hx, hr, ho, execOp, resolve, invoke, builtin, Result.andThen]
      exact hh
  · refine key ⟨b, off, none⟩ cap rfl (fun j u hu => ?_)
    have hlt := (List.getElem?_eq_some_iff.1 hu).1
    rw [flat_len hl] at hlt
    have hj : j / n < m.length := (Nat.div_lt_iff_lt_mul hsz).2 hlt
    have hi' : j % n < (cs (m.getD (j / n) z)).length := by rw [hl]; exact Nat.mod_lt _ hsz
    have e1 : j / n * n + j % n = j := by rw [Nat.mul_comm]; exact Nat.div_add_mod j n
    have h3 := flat_at hl (z := z) (l := m) hj (List.getElem?_eq_getElem hi')
    rw [e1, hu] at h3
    have h4 := hcell (j / n) hj (j % n) _ (List.getElem?_eq_getElem hi')
    rw [Nat.add_assoc, e1] at h4
    rw [WideShapes.add_plain, h4, ← h3]
theorem append_holds (hl : ∀ a, (cs a).length = n) (h1 : ∀ a, ∀ u ∈ cs a, u.oneCell' = true) {P : Program} {w : World} {ops : Array Oper} {rest : List Oper} {o : Oper} {a : Act} {Q : Exit → Act → World → Prop} (hgd : o.guard = none)
    (s x : Operand) (t e : TypeId) (ho : o.op = .call { callee := .builtin .append, args := #[s, x], argTypes := #[t, t] }) (ht : P.underlying t = some (.slice e))
    {i : TypeInfo} (hi : P.info? e = some i) {zv : Value} (hz : i.zero = some zv) {bytes : Nat} (hsize : i.size = n) (hby : i.bytes = bytes) (hzs : zv.cells.size = n) (hsz : 0 < n)
    {B base : Nat} {v vx : Value} {l m : List α} (hs : a.eval s = v) (hx : a.eval x = vx) (hown : w.ownsRow base e n v l.length (flat cs l)) (hm : Holds n cs z w B vx m)
    (h63 : l.length + m.length ≤ maxLen) (hbytes : (l.length + m.length) * bytes ≤ 140737488355328) (hbase : base ≤ w.heap.size)
    (h : ∀ v' w', w'.ownsRow base e n v' (l ++ m).length (flat cs (l ++ m)) → w.grownBy w' v.ownBlock → wpList P ops Q rest (a.put o.dst v') w') : wpList P ops Q (o :: rest) a w :=
  wpList_plain hgd fun _ hK => wp_append_holds hl h1 s x t e ho ht hi hz hsize hby hzs hsz hs hx hown hm h63 hbytes hbase fun v' w' h2 h3 => hK _ _ (h v' w' h2 h3)
/-- At a step of a region that draws its order. -/
theorem step_holds (hl : ∀ a, (cs a).length = n) (h1 : ∀ a, ∀ u ∈ cs a, u.oneCell' = true) {P : Program} {w : World} {ops : Array Oper} {o : Oper} {a : Act} {K : Act → World → Prop} {E : Prop} {Q : Exit → Act → World → Prop} (hgd : o.guard = none)
    (s x : Operand) (t e : TypeId) (ho : o.op = .call { callee := .builtin .append, args := #[s, x], argTypes := #[t, t] }) (ht : P.underlying t = some (.slice e))
    {i : TypeInfo} (hi : P.info? e = some i) {zv : Value} (hz : i.zero = some zv) {bytes : Nat} (hsize : i.size = n) (hby : i.bytes = bytes) (hzs : zv.cells.size = n) (hsz : 0 < n)
    {B base : Nat} {v vx : Value} {l m : List α} (hs : a.eval s = v) (hx : a.eval x = vx) (hown : w.ownsRow base e n v l.length (flat cs l)) (hm : Holds n cs z w B vx m)
    (h63 : l.length + m.length ≤ maxLen) (hbytes : (l.length + m.length) * bytes ≤ 140737488355328) (hbase : base ≤ w.heap.size)
    (h : ∀ v' w', w'.ownsRow base e n v' (l ++ m).length (flat cs (l ++ m)) → w.grownBy w' v.ownBlock → K (a.put o.dst v') w') : if Region.wanted o (yielded ops a.tmps) = true then Oper.wp P o a w K Q else E := by
  have hw : Region.wanted o (yielded ops a.tmps) = true := by simp [Region.wanted, hgd]
  rw [if_pos hw]
  exact wp_append_holds hl h1 s x t e ho ht hi hz hsize hby hzs hsz hs hx hown hm h63 hbytes hbase h
end
end Go.Proofs.YtobhdfkhfmpdlaaDoor.Rec

/-
  PLAIN FACTS for the model's draw l1Bent: bytes that lie in a block with room behind them, and one more byte put behind them, wherever that makes them lie.
-/
namespace Go.Proofs.YtobhdfkhfmpdlaaDoor.Cur
open Go Go.RowKit
set_option linter.unusedVariables false
set_option maxRecDepth 1000000

/-- The bytes l lie in block g, which has room for cap of them. -/
def Room (w : World) (g cap : Nat) (l : List UInt8) : Prop := Bys.BAt w g l ∧ l.length ≤ cap ∧ ∀ j, j < cap → (w.cell? ⟨g, j, none⟩).isSome = true ∧ w.frozen? ⟨g, j, none⟩ = false
theorem room_same {w w' : World} {g cap : Nat} {l : List UInt8} (h : Room w g cap l) (hb : w'.heap[g]? = w.heap[g]?) (hs : w.heap.size ≤ w'.heap.size) : Room w' g cap l := by
  have hc : ∀ j, w'.cell? ⟨g, j, none⟩ = w.cell? ⟨g, j, none⟩ := fun j => by unfold World.cell?; simp only [hb]
  have hf : ∀ j, w'.frozen? ⟨g, j, none⟩ = w.frozen? ⟨g, j, none⟩ := fun j => by unfold World.frozen?; simp only [hb]
  exact ⟨⟨Nat.lt_of_lt_of_le h.1.1 hs, fun j hj => by rw [hc, hf]; exact h.1.2 j hj⟩, h.2.1, fun j hj => by rw [hc, hf]; exact h.2.2 j hj⟩
theorem room_gb {w w' : World} {g cap c : Nat} {l : List UInt8} (h : Room w g cap l) (hg : w.grownBy w' (some c)) (hne : g ≠ c) : Room w' g cap l := room_same h (hg.block g h.1.1 (by simpa using hne)) hg.size
theorem room_below {w w' : World} {B g cap : Nat} {l : List UInt8} (h : Room w g cap l) (hb : Below B w w') (hg : g < B) : Room w' g cap l := room_same h (hb.block g hg) hb.size
theorem to_room (s : ByteArray) (w : World) : ∃ cap w1, (convert 9 22 (.string s)).run Tryd.prog w = .ok (.slice (some ⟨w.heap.size, 0, none⟩) s.size cap) w1 ∧ Room w1 w.heap.size cap s.data.toList ∧ Below w.heap.size w w1 := by
  refine ⟨_, _, run_bytes_of_string w 9 22 5 s Tryd.underlying9 Tryd.underlying22 Tryd.underlying5, ⟨⟨by simp, fun j hj => ?_⟩, ?_, fun j hj => ?_⟩, (Below.refl _ _).drew.alloc (Nat.le_refl _) _⟩
  · have hj' : j < s.data.size := by simpa using hj
    have hc := World.cell?_alloc_mark w.drew (bytesRow s (grownCap w s.size 0 5)) 5 ((bytesRow s (grownCap w s.size 0 5)).size, (bytesRow s (grownCap w s.size 0 5)).size + 1) j
    have hf := World.frozen?_alloc_mark w.drew (bytesRow s (grownCap w s.size 0 5)) 5 (bytesRow s (grownCap w s.size 0 5)).size ((bytesRow s (grownCap w s.size 0 5)).size + 1) j
    have hsz : j < (bytesRow s (grownCap w s.size 0 5)).size := by unfold bytesRow; rw [Array.size_append, Array.size_map]; omega
    refine ⟨?_, ?_⟩
    · refine (hc : _).trans ?_
      rw [bytesRow_at s _ j hj']
      have : s.data.toList.getD j 0 = s.data[j] := by simp [List.getD, Array.getElem?_eq_getElem hj']
      rw [this]; rfl
    · refine (hf : _).trans ?_
      simp; omega
  · have := grownCap_ge w s.size 0 5
    rw [Array.length_toList]; exact this
  · have hge := grownCap_ge w s.size 0 5
    have hge' : s.data.size ≤ grownCap w s.size 0 5 := hge
    have hss : s.size = s.data.size := rfl
    have hc := World.cell?_alloc_mark w.drew (bytesRow s (grownCap w s.size 0 5)) 5 ((bytesRow s (grownCap w s.size 0 5)).size, (bytesRow s (grownCap w s.size 0 5)).size + 1) j
    have hf := World.frozen?_alloc_mark w.drew (bytesRow s (grownCap w s.size 0 5)) 5 (bytesRow s (grownCap w s.size 0 5)).size ((bytesRow s (grownCap w s.size 0 5)).size + 1) j
    have hsz : j < (bytesRow s (grownCap w s.size 0 5)).size := by unfold bytesRow; rw [Array.size_append, Array.size_map, Array.size_replicate]; omega
    refine ⟨?_, ?_⟩
    · have hq : ((w.drew.alloc (.cells (bytesRow s (grownCap w s.size 0 5)) 5 ((bytesRow s (grownCap w s.size 0 5)).size, (bytesRow s (grownCap w s.size 0 5)).size + 1))).cell? ⟨w.heap.size, j, none⟩) = (bytesRow s (grownCap w s.size 0 5))[j]? := hc
      rw [hq, Array.getElem?_eq_getElem hsz]; rfl
    · refine (hf : _).trans ?_
      simp; omega
theorem set_room {w : World} {g cap k : Nat} {l : List UInt8} (c : UInt8) (h : Room w g cap l) (hk : k < l.length) : Bys.BAt (w.setCell ⟨g, k, none⟩ (Bys.bvl c)) g (l.set k c) := Bys.bat_set c h.1 hk
/-- One more byte behind them. -/
theorem push_room {w : World} {g cap : Nat} {l : List UInt8} (x : UInt8) (h : Room w g cap l) (hl : l.length ≤ 2000000) :
    ∃ g' cap' w', (Builtin.append_ #[22, 22] 22 #[.slice (some ⟨g, 0, none⟩) l.length cap, .slice (some ⟨w.heap.size, 0, none⟩) 1 1]).run Tryd.prog (w.alloc (.cells #[Bys.bvl x] 5)) = .ok (.slice (some ⟨g', 0, none⟩) (l.length + 1) cap') w' ∧ Bys.BAt w' g' (l ++ [x]) ∧ ∀ B a, Below B a w → B ≤ g → B ≤ w.heap.size → Below B a w' := by
  obtain ⟨i0, hi, hz0, hz1, hz2⟩ := info_parts Bys.info_byte
  have hgs : g < w.heap.size := h.1.1
  have hR := room_below h ((Below.refl w.heap.size w).alloc (Nat.le_refl _) (.cells #[Bys.bvl x] 5)) hgs
  have hB0 : ∀ B a, Below B a w → B ≤ w.heap.size → Below B a (w.alloc (.cells #[Bys.bvl x] 5)) := fun B a hb h2 => hb.alloc h2 _
  have hsz : (w.alloc (.cells #[Bys.bvl x] 5)).heap.size = w.heap.size + 1 := by simp
  have hn := Bys.news_one w (Bys.bvl x) 5
  generalize w.alloc (.cells #[Bys.bvl x] 5) = W at *
  by_cases hroom : l.length + 1 ≤ cap
  · have hq := run_append_room_cells (P := Tryd.prog) (w := W) 22 22 5 i0 Tryd.underlying22 hi g 0 l.length cap ⟨w.heap.size, 0, none⟩ 1 1 [Bys.bvl x] (by rw [hz1]; rfl) hn (Bys.bvl_one x) hroom
      (fun j hj => by rw [hz1]; simp at hj; subst hj; simpa using (hR.2.2 l.length (by omega)).1) (fun j hj => by rw [hz1]; simp at hj; subst hj; simpa using (hR.2.2 l.length (by omega)).2)
    rw [hz1, show 0 + l.length * 1 = l.length by omega] at hq
    refine ⟨g, cap, _, hq, ⟨by show g < ((W.setCell _ _)).heap.size; simp [World.setCell]; omega, fun j hj => ?_⟩, fun B a hb h1 h2 => (hB0 B a hb h2).setCell h1 _⟩
    show (W.setCell ⟨g, l.length, none⟩ (Bys.bvl x)).cell? ⟨g, j, none⟩ = _ ∧ (W.setCell ⟨g, l.length, none⟩ (Bys.bvl x)).frozen? ⟨g, j, none⟩ = false
    rw [World.frozen?_setCell]
    rw [List.length_append] at hj
    simp at hj
    refine ⟨?_, (hR.2.2 j (by omega)).2⟩
    by_cases e : j = l.length
    · subst e
      rw [World.cell?_setCell_same' _ _ _ (hR.2.2 l.length (by omega)).1]
      simp [List.getD]
    · rw [World.cell?_setCell_other _ _ _ _ (by intro h'; apply e; injection h' with _ h2; exact h2.symm), (hR.1.2 j (by omega)).1]
      simp [List.getD, List.getElem?_append_left (show j < l.length by omega)]
  · have hq := run_append_grow (P := Tryd.prog) W 22 22 5 i0 (.int .u8 0) Tryd.underlying22 hi hz0 ⟨g, 0, none⟩ l.length cap (Bys.bvs l) (by rw [hz1, Bys.bvs_len]; omega)
      (fun j u hu => by
        have hj : j < l.length := by have := (List.getElem?_eq_some_iff.1 hu).1; rwa [Bys.bvs_len] at this
        have h1 := (hR.1.2 j hj).1
        rw [WideShapes.add_plain, Nat.zero_add, h1, ← hu]; unfold Bys.bvs; simp [List.getD, hj])
      ⟨w.heap.size, 0, none⟩ 1 1 [Bys.bvl x] (by rw [hz1]; rfl) hn (by omega) (by omega) (by rw [hz2]; exact growslice_fits (by omega) (by omega))
    refine ⟨W.heap.size, _, _, hq, ⟨by simp, fun j hj => ?_⟩, fun B a hb h1 h2 => ((hB0 B a hb h2).drew.alloc (by show B ≤ W.heap.size; omega) _)⟩
    rw [List.length_append] at hj
    simp at hj
    refine ⟨?_, by rw [show W.heap.size = W.drew.heap.size from rfl]; simp [go_sem]⟩
    rw [show W.heap.size = W.drew.heap.size from rfl, World.cell?_alloc_new]
    rw [Array.getElem?_append_left (by simp [Bys.bvs_len]; omega)]
    by_cases e : j = l.length
    · subst e
      rw [Array.getElem?_append_right (by simp [Bys.bvs_len])]
      simp [Bys.bvs_len, List.getD]
    · have hj' : j < l.length := by omega
      rw [Array.getElem?_append_left (by simp [Bys.bvs_len]; omega)]
      simp [Bys.bvs, List.getD, hj', List.getElem?_append_left hj']
end Go.Proofs.YtobhdfkhfmpdlaaDoor.Cur

/-
  CONTRACT of the model's draw l1Bent: it answers some text that is at most one byte longer than the one given, writes into the cursor alone, and leaves it a cursor over the same bytes.
-/
namespace Go.Proofs.YtobhdfkhfmpdlaaDoor.Cur
open Go Go.RowKit
set_option linter.unusedVariables false
set_option maxRecDepth 1000000

def ucs (c : UInt8) : List Value := [Bys.bvl c]
theorem ucs_len : ∀ a, (ucs a).length = 1 := fun _ => rfl
theorem ucs_one : ∀ a, ∀ u ∈ ucs a, u.oneCell' = true := fun a => Bys.bvl_one a
theorem flat_ucs (l : List UInt8) : Rec.flat ucs l = Bys.bvs l := by
  induction l with
  | nil => rfl
  | cons c r ih =>
    show ucs c ++ Rec.flat ucs r = _
    rw [ih]; rfl
theorem uc_at {w : World} {b off : Nat} {l : List UInt8} (h : ∀ j, j < l.length → w.cell? ⟨b, off + j, none⟩ = some (Bys.bvl (l.getD j 0))) : Rec.At 1 ucs 0 w b off l := fun j hj i u hu => by
  unfold ucs at hu
  match i, hu with
  | 0, hu => simp at hu; subst hu; rw [Nat.mul_one, Nat.add_zero]; exact h j hj
theorem u_nil {w : World} {B N : Nat} {T : TypeId} (hB : B ≤ w.heap.size) (hN : w.heap.size = N) : (w.alloc (.cells #[] T)).ownsRow B T 1 (.slice (some ⟨N, 0, none⟩) 0 0) ([] : List UInt8).length (Rec.flat ucs []) := by
  subst hN; exact Rec.own_mono (Rec.own_lit_nil (cs := ucs) _ _) hB
theorem u_ba {a w : World} (h : Below a.heap.size a w) (o : Obj) : Below a.heap.size a (w.alloc o) := h.alloc h.size o
theorem u_bg {a w w' : World} {B n : Nat} {T : TypeId} {v : Value} {xs : List Value} (h : Below a.heap.size a w) (hown : w.ownsRow B T 1 v n xs) (hB : a.heap.size ≤ B) (hg : w.grownBy w' v.ownBlock) : Below a.heap.size a w' :=
  h.grown hg h.size (fun k e => Nat.le_trans hB (hown.lt k e).1)
theorem u_pre {w : World} {g cap m : Nat} {l : List UInt8} (h : Room w g cap l) (hm : m ≤ l.length) : Rec.Holds 1 ucs 0 w w.heap.size (.slice (some ⟨g, 0, none⟩) m cap) (l.take m) := by
  by_cases h0 : m = 0
  · subst h0; exact Or.inl ⟨by simp, _, _, rfl⟩
  · have hl : (l.take m).length = m := by rw [List.length_take]; omega
    refine Or.inr ⟨by omega, g, 0, cap, by rw [hl], h.1.1, by have := h.2.1; omega, uc_at (fun j hj => ?_)⟩
    rw [Nat.zero_add, (h.1.2 j (by omega)).1]; rw [hl] at hj; congr 2; simp [List.getD, hj]
theorem u_suf {w : World} {g cap m : Nat} {l : List UInt8} (h : Room w g cap l) (hm : m ≤ l.length) : Rec.Holds 1 ucs 0 w w.heap.size (.slice (if cap = m then some ⟨g, 0, none⟩ else some ⟨g, m, none⟩) (l.length - m) (cap - m)) (l.drop m) := by
  have hc := h.2.1
  by_cases e : cap = m
  · rw [if_pos e, show l.length - m = 0 by omega]; exact Or.inl ⟨List.drop_eq_nil_of_le (by omega), _, _, rfl⟩
  · rw [if_neg e]
    by_cases h0 : m = l.length
    · subst h0; rw [Nat.sub_self]; exact Or.inl ⟨by simp, _, _, rfl⟩
    · have hl : (l.drop m).length = l.length - m := by rw [List.length_drop]
      refine Or.inr ⟨by omega, g, m, cap - m, by rw [hl], h.1.1, by omega, uc_at (fun j hj => ?_)⟩
      rw [(h.1.2 (m + j) (by omega)).1]; congr 2; simp [List.getD, List.getElem?_drop]
theorem bat_take {w : World} {g : Nat} {l : List UInt8} (k : Nat) (h : Bys.BAt w g l) : Bys.BAt w g (l.take k) := ⟨h.1, fun j hj => by
  rw [List.length_take] at hj
  refine ⟨?_, (h.2 j (by omega)).2⟩
  rw [(h.2 j (by omega)).1]; congr 2; simp [List.getD, show j < k by omega]⟩
theorem cur_same {w w' : World} {c : Nat} {bv : Value} (h : CurAt w c bv) (hb : w'.heap[c]? = w.heap[c]?) : CurAt w' c bv := by
  obtain ⟨i, k, h0, hh⟩ := h
  exact ⟨i, k, h0, by rw [hb]; exact hh⟩
theorem gb_below {a w w' : World} {c : Nat} (h : a.grownBy w (some c)) (hb : Below a.heap.size w w') : a.grownBy w' (some c) :=
  ⟨hb.os.trans h.os, hb.tape.trans h.tape, hb.output.trans h.output, Nat.le_trans h.size hb.size, fun i hi hn => (hb.block i hi).trans (h.block i hi hn)⟩
theorem append_run {P : Program} {w w' : World} {ops : Array Oper} {rest : List Oper} {o : Oper} {a : Act} {Q : Exit → Act → World → Prop} (hgd : o.guard = none) (s x : Operand) (t : TypeId)
    (ho : o.op = .call { callee := .builtin .append, args := #[s, x], argTypes := #[t, t] }) {v1 v2 v' : Value} (hs : a.eval s = v1) (hx : a.eval x = v2)
    (hr : (Builtin.append_ #[t, t] o.type #[v1, v2]).run P w = .ok v' w') (h : wpList P ops Q rest (a.put o.dst v') w') : wpList P ops Q (o :: rest) a w := by
  refine wpList_plain hgd fun K' hK' => ?_
  unfold Oper.wp
  simp [execOp, ho, resolve, invoke, builtin, hs, hx, hr, Result.andThen]
  exact hK' _ _ h

set_option maxHeartbeats 4000000 in
theorem bent_any (c B : Nat) (bv : Value) (s : List UInt8) (w : World) (hcur : CurAt w c bv) (hby : Bytes w B bv) (hB : B ≤ c) (hs : s.length ≤ 1000000) :
    Calls Tryd.prog 28 #[.pointer (some ⟨c, 0, none⟩), .string ⟨s.toArray⟩] w (DrawnS (fun x => x.length ≤ s.length + 1) c bv w) := by
  obtain ⟨i0, hi, hz0, hz1, hz2⟩ := info_parts Bys.info_byte
  obtain ⟨cap, w1, hcv, hr, hb1⟩ := to_room ⟨s.toArray⟩ w
  have hcl := cur_lt hcur
  rw [show (⟨s.toArray⟩ : ByteArray).size = s.length by simp [ByteArray.size]] at hcv
  have hc1 := cur_same hcur (hb1.block c hcl)
  have hy1 := bytes_below hby (hb1.mono (by omega : B ≤ w.heap.size))
  have hg1 : w.grownBy w1 (some c) := gb_below (World.grownBy.refl _ _) hb1
  have HR1 : Hid (Room w1 w.heap.size cap s) := Lib.hid hr
  have HB1 := Lib.hid hb1
  clear hr hcur hby hb1
  go_enter Tryd.func28, Tryd.ntmps28
  go_wp2_with (fail)
  go_at_call 66
  refine (below_any c B bv 7 _ hc1 hy1 hB (by omega)).mono ?_
  rintro e w2 ⟨n, hn, rfl, hc2, hg2⟩
  have hy2 := bytes_kept hy1 hg2 hB
  have HR2 := Lib.hid (room_gb HR1.out hg2 (by omega))
  have HG2 := Lib.hid (gb_trans hg1 hg2)
  obtain ⟨hn0, hn1⟩ := hn
  have hn7 : n < 7 := by omega
  clear hn1 hc1 hy1 hg1 hg2 hcv HR1
  have hbk0 := Bys.back w2 w.heap.size cap s HR2.out.1
  by_cases e0 : n = 0
  · subst e0
    by_cases h0 : 0 < s.length
    · have hsi : (0 : Int) < (s.length : Int) := by omega
      clear hbk0
      go_wp2_with (fail)
      go_at_call 66
      refine (below_any c B bv (s.length : Int) _ hc2 hy2 hB (by omega)).mono ?_
      rintro e w3 ⟨x, hx, rfl, hc3, hg3⟩
      obtain ⟨j, rfl, hj⟩ : ∃ j : Nat, x = (j : Int) ∧ j < s.length := ⟨x.toNat, by have := hx.1; omega, by have := hx.1; have := hx.2; omega⟩
      have hy3 := bytes_kept hy2 hg3 hB
      clear hx
      go_wp2_with (fail)
      go_at_call 66
      refine (below_any c B bv 256 _ hc3 hy3 hB (by omega)).mono ?_
      rintro e w4 ⟨y, hy, rfl, hc4, hg4⟩
      obtain ⟨u, rfl⟩ : ∃ u : UInt8, y = (u.toNat : Int) := ⟨UInt8.ofNat y.toNat, by have := hy.1; have := hy.2; simp [UInt8.toNat_ofNat']; omega⟩
      have hu0 : (0 : Int) ≤ (u.toNat : Int) := by omega
      have hu1 : (u.toNat : Int) ≤ 255 := by have := u.toNat_lt; omega
      have hg24 := gb_trans hg3 hg4
      have hR4 := room_gb HR2.out hg24 (by omega)
      have hcell := (hR4.1.2 j hj).1
      have hfz := (hR4.1.2 j hj).2
      have hji : (j : Int) < (s.length : Int) := by omega
      have hbk := Bys.back (w4.setCell ⟨w.heap.size, j, none⟩ (Bys.bvl u)) w.heap.size cap (s.set j u) (set_room u hR4 hj)
      rw [List.length_set] at hbk
      have HE := Lib.hid (And.intro (show (s.set j u).length ≤ s.length + 1 by rw [List.length_set]; omega) (And.intro (cur_same (w' := w4.setCell ⟨w.heap.size, j, none⟩ (Bys.bvl u)) hc4 (Below.heap_setCell _ _ _ _ (by show c ≠ w.heap.size; omega))) (gb_below (gb_trans HG2.out hg24) (show Below w.heap.size w4 (w4.setCell ⟨w.heap.size, j, none⟩ (Bys.bvl u)) from Bys.below_set _ (Below.refl _ _) (Nat.le_refl _)))))
      unfold Bys.bvl at hbk hcell HE
      clear hy hc2 hc3 hc4 hy2 hy3 hg3 hg4 hg24 hR4
      go_wp2
      go_ret
      exact ⟨_, HE.out.1, rfl, HE.out.2.1, HE.out.2.2⟩
    · have hsi : ¬ (0 : Int) < (s.length : Int) := by omega
      have HC := Lib.hid hc2
      clear hc2 hy2
      go_wp2
      go_ret
      exact ⟨s, by omega, rfl, HC.out, HG2.out⟩
  by_cases e1 : n = 1
  · subst e1
    clear hbk0
    go_wp2_with (fail)
    go_at_call 66
    refine (below_any c B bv ((s.length : Int) + 1) _ hc2 hy2 hB (by omega)).mono ?_
    rintro e w3 ⟨x, hx, rfl, hc3, hg3⟩
    obtain ⟨j, rfl, hj⟩ : ∃ j : Nat, x = (j : Int) ∧ j ≤ s.length := ⟨x.toNat, by have := hx.1; omega, by have := hx.1; have := hx.2; omega⟩
    have hR3 := room_gb HR2.out hg3 (by omega)
    have hjc : j ≤ cap := Nat.le_trans hj hR3.2.1
    have hjci : (j : Int) ≤ (cap : Int) := by omega
    have hj0 : (0 : Int) ≤ (j : Int) := by omega
    have hbk := Bys.back w3 w.heap.size cap (s.take j) (bat_take j hR3.1)
    rw [List.length_take, Nat.min_eq_left hj] at hbk
    have HE := Lib.hid (And.intro (show (s.take j).length ≤ s.length + 1 by rw [List.length_take]; omega) (And.intro hc3 (gb_trans HG2.out hg3)))
    clear hx hc2 hc3 hy2 hg3 hR3
    go_wp2
    go_ret
    exact ⟨_, HE.out.1, rfl, HE.out.2.1, HE.out.2.2⟩
  by_cases e2 : n = 2
  · subst e2
    clear hbk0
    have H := int_lits c B bv [0, 32, 44, 34, 255] 5 rfl w2 hc2 hy2 hB (by decide) (by decide) 3
    go_wp2_with (fail)
    go_at_call 67
    refine H.mono ?_
    rintro e w3 ⟨y, hy, rfl, hc3, hg3⟩
    have hyb : 0 ≤ y ∧ y ≤ 255 := by simp at hy; omega
    obtain ⟨u, rfl⟩ : ∃ u : UInt8, y = (u.toNat : Int) := ⟨UInt8.ofNat y.toNat, by have := hyb.1; have := hyb.2; simp [UInt8.toNat_ofNat']; omega⟩
    have hu0 : (0 : Int) ≤ (u.toNat : Int) := by omega
    have hu1 : (u.toNat : Int) ≤ 255 := hyb.2
    have hR3 := room_gb HR2.out hg3 (by omega)
    obtain ⟨g', cap', w5, hap, hat, hbl⟩ := push_room u hR3 (by omega)
    have hbk := Bys.back w5 g' cap' (s ++ [u]) hat
    rw [List.length_append, show [u].length = 1 from rfl] at hbk
    have HL : Hid ((s ++ [u]).length ≤ s.length + 1) := Lib.hid (by rw [List.length_append]; simp)
    have hb5 := hbl w.heap.size w3 (Below.refl _ _) (Nat.le_refl _) (gb_trans HG2.out hg3).size
    have hb6 := hbl (w.heap.size) w3 (Below.refl _ _) (Nat.le_refl _) (gb_trans HG2.out hg3).size
    have HE := Lib.hid (And.intro (cur_same hc3 (hb6.block c hcl)) (gb_below (gb_trans HG2.out hg3) hb5))
    unfold Bys.bvl at hap
    generalize s ++ [u] = r at hbk HL
    clear H hy hyb hc2 hc3 hy2 hg3 hR3 hat hbl hb5 hb6
    go_wp2_with (at_builtin; refine append_run rfl (.tmp 36) (.tmp 41) _ rfl rfl rfl hap ?_)
    go_ret
    exact ⟨_, HL.out, rfl, HE.out.1, HE.out.2⟩
  by_cases e3 : n = 3
  · subst e3
    by_cases h0 : 0 < s.length
    · have hsi : (0 : Int) < (s.length : Int) := by omega
      clear hbk0
      go_wp2_with (fail)
      go_at_call 66
      refine (below_any c B bv (s.length : Int) _ hc2 hy2 hB (by omega)).mono ?_
      rintro e w3 ⟨x, hx, rfl, hc3, hg3⟩
      obtain ⟨j, rfl, hj⟩ : ∃ j : Nat, x = (j : Int) ∧ j < s.length := ⟨x.toNat, by have := hx.1; omega, by have := hx.1; have := hx.2; omega⟩
      have hR3 := room_gb HR2.out hg3 (by omega)
      have hjc : j ≤ cap := Nat.le_trans (Nat.le_of_lt hj) hR3.2.1
      have hjc1 : j + 1 ≤ cap := Nat.le_trans hj hR3.2.1
      have HPRE : Hid (∀ u, Below w3.heap.size w3 u → Rec.Holds 1 ucs 0 u w3.heap.size (.slice (some ⟨w.heap.size, 0, none⟩) j cap) (s.take j)) := Lib.hid (fun u hu => Rec.holds_below (u_pre hR3 (Nat.le_of_lt hj)) hu)
      have HSUF : Hid (∀ u, Below w3.heap.size w3 u → Rec.Holds 1 ucs 0 u w3.heap.size (.slice (if cap = j + 1 then some ⟨w.heap.size, 0, none⟩ else some ⟨w.heap.size, j + 1, none⟩) (s.length - (j + 1)) (cap - (j + 1))) (s.drop (j + 1))) := Lib.hid (fun u hu => Rec.holds_below (u_suf hR3 hj) hu)
      have HBD : Hid (Below w3.heap.size w3 w3.drew) := Lib.hid (Below.refl _ _).drew
      have HSD : Hid (Hid (Below w3.heap.size w3 w3.drew)) := Lib.hid HBD
      have SA : Hid (∀ (u : World) (o : Obj), Hid (Below w3.heap.size w3 u) → Hid (Below w3.heap.size w3 (u.alloc o))) := Lib.hid (fun u o hb => Lib.hid (u_ba hb.out o))
      have HBA : Hid (Below w3.heap.size w3 (w3.alloc (.cells #[] 5)).drew) := Lib.hid (u_ba (Below.refl _ _) _).drew
      have HO3 : Hid ((w3.alloc (.cells #[] 5)).drew.ownsRow w3.heap.size 5 1 (.slice (some ⟨w3.heap.size, 0, none⟩) 0 0) ([] : List UInt8).length (Rec.flat ucs [])) := Lib.hid (u_nil (w := w3) (Nat.le_refl _) rfl)
      have HC3 := Lib.hid hc3
      have HG3 := Lib.hid (gb_trans HG2.out hg3)
      have hj0 : (0 : Int) ≤ (j : Int) := by omega
      have hjt : ((j : Int)).toNat = j := by omega
      have hji : (j : Int) < (s.length : Int) := by omega
      have hjci : (j : Int) ≤ (cap : Int) := by omega
      have hjs : (j : Int) + 1 ≤ (s.length : Int) := by omega
      have hj10 : (0 : Int) ≤ (j : Int) + 1 := by omega
      have hj11 : ((j : Int) + 1).toNat = j + 1 := by omega
      have hj12 : ¬ (j : Int) + 1 < 0 := by omega
      have hj13 : ¬ (s.length : Int) < (j : Int) + 1 := by omega
      have hw : IntKind.i64.wrap ((j : Int) + 1) = (j : Int) + 1 := IntWalk.i64_in _ (by omega)
      have hjc2 : (j : Int) + 1 ≤ (cap : Int) := by omega
      have hslc : s.length ≤ cap := HR2.out.2.1
      have hslci : (s.length : Int) ≤ (cap : Int) := by omega
      clear hx hc2 hc3 hy2 hg3 hR3
      go_wp2
      go_region_held_law (fun u => Hid (Below w3.heap.size w3 u))
        (first | exact HSD.out | exact Lib.hid (u_ba HBD.out _) | exact HB5 | exact HB3 | go_keep)
        (first
          | (refine Rec.step_holds ucs_len ucs_one (by rfl) (.tmp 52) (.tmp 55) 22 5 (by rfl) Tryd.underlying22 hi hz0 hz1 hz2 (by rfl) (by decide) (by rfl) (by rfl) HO3.out (HPRE.out _ HBA.out) (by simp only [List.length_take, List.length_nil, List.length_append, List.length_cons, List.length_drop]; unfold maxLen; omega) (by simp only [List.length_take, List.length_nil, List.length_append, List.length_cons, List.length_drop]; omega) HBA.out.size ?_; intro v1 w4 hown1 hgrow1; have HB3 : Hid (Below w3.heap.size w3 w4) := Lib.hid (u_bg HBA.out HO3.out (Nat.le_refl _) hgrow1))
          | (refine Rec.step_holds ucs_len ucs_one (by rfl) (.tmp 56) (.tmp 60) 22 5 (by rfl) Tryd.underlying22 hi hz0 hz1 hz2 (by rfl) (by decide) (by rfl) (by rfl) hown1 (HSUF.out _ HB3.out) (by simp only [List.length_take, List.length_nil, List.length_append, List.length_cons, List.length_drop]; unfold maxLen; omega) (by simp only [List.length_take, List.length_nil, List.length_append, List.length_cons, List.length_drop]; omega) HB3.out.size ?_; intro v2 w5 hown2 hgrow2; have HB5 : Hid (Below w3.heap.size w3 w5) := Lib.hid (u_bg HB3.out hown1 (Nat.le_refl _) hgrow2))
          | fail)
      all_goals (
        rw [flat_ucs] at hown2
        have hbk := Bys.own_str hown2
        have HL : Hid (([] ++ s.take j ++ s.drop (j + 1)).length ≤ s.length + 1) := Lib.hid (by simp only [List.length_take, List.length_nil, List.length_append, List.length_drop]; omega)
        have HE := Lib.hid (And.intro (cur_same HC3.out (HB5.out.block c (cur_lt HC3.out))) (gb_below HG3.out (HB5.out.mono HG3.out.size)))
        generalize [] ++ s.take j ++ s.drop (j + 1) = r at hbk HL
        clear hown1 hgrow1 HB3 hown2 hgrow2 HB5 HPRE HSUF
        go_wp2
        all_goals go_ret
        all_goals exact ⟨_, HL.out, rfl, HE.out.1, HE.out.2⟩)
    · have hsi : ¬ (0 : Int) < (s.length : Int) := by omega
      have HC := Lib.hid hc2
      clear hc2 hy2
      go_wp2
      go_ret
      exact ⟨s, by omega, rfl, HC.out, HG2.out⟩
  · have HC := Lib.hid hc2
    clear hc2 hy2
    go_wp2
    go_ret
    exact ⟨s, by omega, rfl, HC.out, HG2.out⟩
end Go.Proofs.YtobhdfkhfmpdlaaDoor.Cur
