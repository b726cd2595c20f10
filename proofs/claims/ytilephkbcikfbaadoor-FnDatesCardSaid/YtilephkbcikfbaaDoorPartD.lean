/-
  CONTRACTS AND PLAIN FACTS, several texts in one; each says in its own words what it proves.
-/
import Derived.Test.YtilephkbcikfbaaDoorPartC
import Derived.Laws.OwnMore
import Derived.Tactics
import Derived.Test.YtilephkbcikfbaaDoorPartA
import Derived.Test.YtilephkbcikfbaaDoorPartB
import Derived.ArgAppend
import Derived.WideShapes
import Derived.Laws.Append
import Derived.Laws.AppendOwn
set_option linter.unusedSimpArgs false
set_option linter.unusedVariables false

/-
  A LAW FOR append(built, given...): what the call has built, and behind it a slice that reads as a list of structs, whether nil, empty or not.
-/
namespace Go.Proofs.YtilephkbcikfbaaDoor.Rec
open Go Go.RowKit
set_option linter.unusedVariables false
set_option maxRecDepth 1000000

theorem run_append_zero {P : Program} {w : World} {base n size c : Nat} {t ty e : TypeId} {i : TypeInfo} {v : Value} {xs : List Value} (hown : w.ownsRow base e size v n xs) (hi : P.info? e = some i) (ht : P.underlying t = some (.slice e)) :
    (Builtin.append_ #[t, t] ty #[v, .slice none 0 c]).run P w = .ok v w := by
  have hu := run_underlying ht
  cases hown.2 with
  | inl h => obtain ⟨rfl, rfl⟩ := h; simp [Builtin.lenOf, Builtin.firstCells, Builtin.append_, sizeOf, typeInfo, hu, hi]
  | inr h => obtain ⟨g, cap, cur, rfl, _, _, hnc, _⟩ := h; simp [Builtin.lenOf, Builtin.firstCells, Builtin.append_, sizeOf, typeInfo, storeCells, hu, hi, hnc]
section
variable {α : Type} {n : Nat} {cs : α → List Value} {z : α}
theorem wp_append_holds (hl : ∀ a, (cs a).length = n) (h1 : ∀ a, ∀ u ∈ cs a, u.oneCell' = true) {P : Program} {w : World} {o : Oper} {a : Act} {K : Act → World → Prop} {Q : Exit → Act → World → Prop}
    (s x : Operand) (t e : TypeId) (ho : o.op = .call { callee := .builtin .append, args := #[s, x], argTypes := #[t, t] }) (ht : P.underlying t = some (.slice e))
    {i : TypeInfo} (hi : P.info? e = some i) {zv : Value} (hz : i.zero = some zv) {bytes : Nat} (hsize : i.size = n) (hby : i.bytes = bytes) (hzs : zv.cells.size = n) (hsz : 0 < n)
    {B base : Nat} {v vx : Value} {l m : List α} (hs : a.eval s = v) (hx : a.eval x = vx) (hown : w.ownsRow base e n v l.length (flat cs l)) (hm : Holds n cs z w B vx m)
    (h63 : l.length + m.length ≤ maxLen) (hbytes : (l.length + m.length) * bytes ≤ 140737488355328) (hbase : base ≤ w.heap.size)
    (h : ∀ v' w', w'.ownsRow base e n v' (l ++ m).length (flat cs (l ++ m)) → w.grownBy w' v.ownBlock → K (a.put o.dst v') w') : o.wp P a w K Q := by
  have key : ∀ (ad : Addr) (cap : Nat), vx = .slice (some ad) m.length cap → (∀ j u, (flat cs m)[j]? = some u → w.cell? (ad.add j) = some u) → o.wp P a w K Q := fun ad cap hv hc =>
    wp_append_own w s x t ho base e i zv n bytes ht hi hz hsize hby hzs hsz v l.length (flat cs l) hs hown ad m.length cap (flat cs m) (hx.trans hv) (flat_len hl m) hc (flat_one h1 m) h63 hbytes hbase
      fun v' w' h2 h3 _ => h v' w' (by rw [List.length_append, flat_append]; exact h2) h3
  rcases hm with ⟨rfl, ad, cap, rfl⟩ | ⟨h0, b, off, cap, rfl, hB, hc, hcell⟩
  · cases ad with
    | some ad => exact key ad cap rfl (fun j u hu => by simp [flat] at hu)
    | none =>
      have hh := h v w (by simpa using hown) (World.grownBy.refl w _)
      have hr := run_append_zero (P := P) (ty := o.type) (c := cap) hown hi ht
      unfold Oper.wp
      simp [hs, hx, hr, ho, execOp, resolve, invoke, builtin, Result.andThen]
      exact hh
  · refine key ⟨b, off, none⟩ cap rfl (fun j u hu => ?_)
    have hlt := (List.getElem?_eq_some_iff.1 hu).1
    rw [flat_len hl] at hlt
    have hj : j / n < m.length := (Nat.div_lt_iff_lt_mul hsz).2 hlt
    have hi' : j % n < (cs (m.getD (j / n) z)).length := by rw [hl]; exact Nat.mod_lt _ hsz
    have e1 : j / n * n + j % n = j := by rw [Nat.mul_comm]; exact Nat.div_add_mod j n
    have h3 := flat_at hl (z := z) (l := m) hj (List.getElem?_eq_getElem hi')
    rw [e1, hu] at h3
    have h4 := hcell (j / n) hj (j % n) _ (List.getElem?_eq_getElem hi')
    rw [Nat.add_assoc, e1] at h4
    rw [WideShapes.add_plain, h4, ← h3]
theorem append_holds (hl : ∀ a, (cs a).length = n) (h1 : ∀ a, ∀ u ∈ cs a, u.oneCell' = true) {P : Program} {w : World} {ops : Array Oper} {rest : List Oper} {o : Oper} {a : Act} {Q : Exit → Act → World → Prop} (hgd : o.guard = none)
    (s x : Operand) (t e : TypeId) (ho : o.op = .call { callee := .builtin .append, args := #[s, x], argTypes := #[t, t] }) (ht : P.underlying t = some (.slice e))
    {i : TypeInfo} (hi : P.info? e = some i) {zv : Value} (hz : i.zero = some zv) {bytes : Nat} (hsize : i.size = n) (hby : i.bytes = bytes) (hzs : zv.cells.size = n) (hsz : 0 < n)
    {B base : Nat} {v vx : Value} {l m : List α} (hs : a.eval s = v) (hx : a.eval x = vx) (hown : w.ownsRow base e n v l.length (flat cs l)) (hm : Holds n cs z w B vx m)
    (h63 : l.length + m.length ≤ maxLen) (hbytes : (l.length + m.length) * bytes ≤ 140737488355328) (hbase : base ≤ w.heap.size)
    (h : ∀ v' w', w'.ownsRow base e n v' (l ++ m).length (flat cs (l ++ m)) → w.grownBy w' v.ownBlock → wpList P ops Q rest (a.put o.dst v') w') : wpList P ops Q (o :: rest) a w :=
  wpList_plain hgd fun _ hK => wp_append_holds hl h1 s x t e ho ht hi hz hsize hby hzs hsz hs hx hown hm h63 hbytes hbase fun v' w' h2 h3 => hK _ _ (h v' w' h2 h3)
/-- At a step of a region that draws its order. -/
theorem step_holds (hl : ∀ a, (cs a).length = n) (h1 : ∀ a, ∀ u ∈ cs a, u.oneCell' = true) {P : Program} {w : World} {ops : Array Oper} {o : Oper} {a : Act} {K : Act → World → Prop} {E : Prop} {Q : Exit → Act → World → Prop} (hgd : o.guard = none)
    (s x : Operand) (t e : TypeId) (ho : o.op = .call { callee := .builtin .append, args := #[s, x], argTypes := #[t, t] }) (ht : P.underlying t = some (.slice e))
    {i : TypeInfo} (hi : P.info? e = some i) {zv : Value} (hz : i.zero = some zv) {bytes : Nat} (hsize : i.size = n) (hby : i.bytes = bytes) (hzs : zv.cells.size = n) (hsz : 0 < n)
    {B base : Nat} {v vx : Value} {l m : List α} (hs : a.eval s = v) (hx : a.eval x = vx) (hown : w.ownsRow base e n v l.length (flat cs l)) (hm : Holds n cs z w B vx m)
    (h63 : l.length + m.length ≤ maxLen) (hbytes : (l.length + m.length) * bytes ≤ 140737488355328) (hbase : base ≤ w.heap.size)
    (h : ∀ v' w', w'.ownsRow base e n v' (l ++ m).length (flat cs (l ++ m)) → w.grownBy w' v.ownBlock → K (a.put o.dst v') w') : if Region.wanted o (yielded ops a.tmps) = true then Oper.wp P o a w K Q else E := by
  have hw : Region.wanted o (yielded ops a.tmps) = true := by simp [Region.wanted, hgd]
  rw [if_pos hw]
  exact wp_append_holds hl h1 s x t e ho ht hi hz hsize hby hzs hsz hs hx hown hm h63 hbytes hbase h
end
end Go.Proofs.YtilephkbcikfbaaDoor.Rec

/-
  PLAIN FACTS for the model's draw l1Bent: bytes that lie in a block with room behind them, and one more byte put behind them, wherever that makes them lie.
-/
namespace Go.Proofs.YtilephkbcikfbaaDoor.Cur
open Go Go.RowKit
set_option linter.unusedVariables false
set_option maxRecDepth 1000000

/-- The bytes l lie in block g, which has room for cap of them. -/
def Room (w : World) (g cap : Nat) (l : List UInt8) : Prop := Bys.BAt w g l ∧ l.length ≤ cap ∧ ∀ j, j < cap → (w.cell? ⟨g, j, none⟩).isSome = true ∧ w.frozen? ⟨g, j, none⟩ = false
theorem room_same {w w' : World} {g cap : Nat} {l : List UInt8} (h : Room w g cap l) (hb : w'.heap[g]? = w.heap[g]?) (hs : w.heap.size ≤ w'.heap.size) : Room w' g cap l := by
  have hc : ∀ j, w'.cell? ⟨g, j, none⟩ = w.cell? ⟨g, j, none⟩ := fun j => by unfold World.cell?; simp only [hb]
  have hf : ∀ j, w'.frozen? ⟨g, j, none⟩ = w.frozen? ⟨g, j, none⟩ := fun j => by unfold World.frozen?; simp only [hb]
  exact ⟨⟨Nat.lt_of_lt_of_le h.1.1 hs, fun j hj => by rw [hc, hf]; exact h.1.2 j hj⟩, h.2.1, fun j hj => by rw [hc, hf]; exact h.2.2 j hj⟩
theorem room_gb {w w' : World} {g cap c : Nat} {l : List UInt8} (h : Room w g cap l) (hg : w.grownBy w' (some c)) (hne : g ≠ c) : Room w' g cap l := room_same h (hg.block g h.1.1 (by simpa using hne)) hg.size
theorem room_below {w w' : World} {B g cap : Nat} {l : List UInt8} (h : Room w g cap l) (hb : Below B w w') (hg : g < B) : Room w' g cap l := room_same h (hb.block g hg) hb.size
theorem to_room (s : ByteArray) (w : World) : ∃ cap w1, (convert 9 22 (.string s)).run Tryd.prog w = .ok (.slice (some ⟨w.heap.size, 0, none⟩) s.size cap) w1 ∧ Room w1 w.heap.size cap s.data.toList ∧ Below w.heap.size w w1 := by
  refine ⟨_, _, run_bytes_of_string w 9 22 5 s Tryd.underlying9 Tryd.underlying22 Tryd.underlying5, ⟨⟨by simp, fun j hj => ?_⟩, ?_, fun j hj => ?_⟩, (Below.refl _ _).drew.alloc (Nat.le_refl _) _⟩
  · have hj' : j < s.data.size := by simpa using hj
    have hc := World.cell?_alloc_mark w.drew (bytesRow s (grownCap w s.size 0 5)) 5 ((bytesRow s (grownCap w s.size 0 5)).size, (bytesRow s (grownCap w s.size 0 5)).size + 1) j
    have hf := World.frozen?_alloc_mark w.drew (bytesRow s (grownCap w s.size 0 5)) 5 (bytesRow s (grownCap w s.size 0 5)).size ((bytesRow s (grownCap w s.size 0 5)).size + 1) j
    have hsz : j < (bytesRow s (grownCap w s.size 0 5)).size := by unfold bytesRow; rw [Array.size_append, Array.size_map]; omega
    refine ⟨?_, ?_⟩
    · refine (hc : _).trans ?_
      rw [bytesRow_at s _ j hj']
      have : s.data.toList.getD j 0 = s.data[j] := by simp [List.getD, Array.getElem?_eq_getElem hj']
      rw [this]; rfl
    · refine (hf : _).trans ?_
      simp; omega
  · have := grownCap_ge w s.size 0 5
    rw [Array.length_toList]; exact this
  · have hge := grownCap_ge w s.size 0 5
    have hge' : s.data.size ≤ grownCap w s.size 0 5 := hge
    have hss : s.size = s.data.size := rfl
    have hc := World.cell?_alloc_mark w.drew (bytesRow s (grownCap w s.size 0 5)) 5 ((bytesRow s (grownCap w s.size 0 5)).size, (bytesRow s (grownCap w s.size 0 5)).size + 1) j
    have hf := World.frozen?_alloc_mark w.drew (bytesRow s (grownCap w s.size 0 5)) 5 (bytesRow s (grownCap w s.size 0 5)).size ((bytesRow s (grownCap w s.size 0 5)).size + 1) j
    have hsz : j < (bytesRow s (grownCap w s.size 0 5)).size := by unfold bytesRow; rw [Array.size_append, Array.size_map, Array.size_replicate]; omega
    refine ⟨?_, ?_⟩
    · have hq : ((w.drew.alloc (.cells (bytesRow s (grownCap w s.size 0 5)) 5 ((bytesRow s (grownCap w s.size 0 5)).size, (bytesRow s (grownCap w s.size 0 5)).size + 1))).cell? ⟨w.heap.size, j, none⟩) = (bytesRow s (grownCap w s.size 0 5))[j]? := hc
      rw [hq, Array.getElem?_eq_getElem hsz]; rfl
    · refine (hf : _).trans ?_
      simp; omega
theorem set_room {w : World} {g cap k : Nat} {l : List UInt8} (c : UInt8) (h : Room w g cap l) (hk : k < l.length) : Bys.BAt (w.setCell ⟨g, k, none⟩ (Bys.bvl c)) g (l.set k c) := Bys.bat_set c h.1 hk
/-- One more byte behind them. -/
theorem push_room {w : World} {g cap : Nat} {l : List UInt8} (x : UInt8) (h : Room w g cap l) (hl : l.length ≤ 2000000) :
    ∃ g' cap' w', (Builtin.append_ #[22, 22] 22 #[.slice (some ⟨g, 0, none⟩) l.length cap, .slice (some ⟨w.heap.size, 0, none⟩) 1 1]).run Tryd.prog (w.alloc (.cells #[Bys.bvl x] 5)) = .ok (.slice (some ⟨g', 0, none⟩) (l.length + 1) cap') w' ∧ Bys.BAt w' g' (l ++ [x]) ∧ ∀ B a, Below B a w → B ≤ g → B ≤ w.heap.size → Below B a w' := by
  obtain ⟨i0, hi, hz0, hz1, hz2⟩ := info_parts Bys.info_byte
  have hgs : g < w.heap.size := h.1.1
  have hR := room_below h ((Below.refl w.heap.size w).alloc (Nat.le_refl _) (.cells #[Bys.bvl x] 5)) hgs
  have hB0 : ∀ B a, Below B a w → B ≤ w.heap.size → Below B a (w.alloc (.cells #[Bys.bvl x] 5)) := fun B a hb h2 => hb.alloc h2 _
  have hsz : (w.alloc (.cells #[Bys.bvl x] 5)).heap.size = w.heap.size + 1 := by simp
  have hn := Bys.news_one w (Bys.bvl x) 5
  generalize w.alloc (.cells #[Bys.bvl x] 5) = W at *
  by_cases hroom : l.length + 1 ≤ cap
  · have hq := run_append_room_cells (P := Tryd.prog) (w := W) 22 22 5 i0 Tryd.underlying22 hi g 0 l.length cap ⟨w.heap.size, 0, none⟩ 1 1 [Bys.bvl x] (by rw [hz1]; rfl) hn (Bys.bvl_one x) hroom
      (fun j hj => by rw [hz1]; simp at hj; subst hj; simpa using (hR.2.2 l.length (by omega)).1) (fun j hj => by rw [hz1]; simp at hj; subst hj; simpa using (hR.2.2 l.length (by omega)).2)
    rw [hz1, show 0 + l.length * 1 = l.length by omega] at hq
    refine ⟨g, cap, _, hq, ⟨by show g < ((W.setCell _ _)).heap.size; simp [World.setCell]; omega, fun j hj => ?_⟩, fun B a hb h1 h2 => (hB0 B a hb h2).setCell h1 _⟩
    show (W.setCell ⟨g, l.length, none⟩ (Bys.bvl x)).cell? ⟨g, j, none⟩ = _ ∧ (W.setCell ⟨g, l.length, none⟩ (Bys.bvl x)).frozen? ⟨g, j, none⟩ = false
    rw [World.frozen?_setCell]
    rw [List.length_append] at hj
    simp at hj
    refine ⟨?_, (hR.2.2 j (by omega)).2⟩
    by_cases e : j = l.length
    · subst e
      rw [World.cell?_setCell_same' _ _ _ (hR.2.2 l.length (by omega)).1]
      simp [List.getD]
    · rw [World.cell?_setCell_other _ _ _ _ (by intro h'; apply e; injection h' with _ h2; exact h2.symm), (hR.1.2 j (by omega)).1]
      simp [List.getD, List.getElem?_append_left (show j < l.length by omega)]
  · have hq := run_append_grow (P := Tryd.prog) W 22 22 5 i0 (.int .u8 0) Tryd.underlying22 hi hz0 ⟨g, 0, none⟩ l.length cap (Bys.bvs l) (by rw [hz1, Bys.bvs_len]; omega)
      (fun j u hu => by
        have hj : j < l.length := by have := (List.getElem?_eq_some_iff.1 hu).1; rwa [Bys.bvs_len] at this
        have h1 := (hR.1.2 j hj).1
        rw [WideShapes.add_plain, Nat.zero_add, h1, ← hu]; unfold Bys.bvs; simp [List.getD, hj])
      ⟨w.heap.size, 0, none⟩ 1 1 [Bys.bvl x] (by rw [hz1]; rfl) hn (by omega) (by omega) (by rw [hz2]; exact growslice_fits (by omega) (by omega))
    refine ⟨W.heap.size, _, _, hq, ⟨by simp, fun j hj => ?_⟩, fun B a hb h1 h2 => ((hB0 B a hb h2).drew.alloc (by show B ≤ W.heap.size; omega) _)⟩
    rw [List.length_append] at hj
    simp at hj
    refine ⟨?_, by rw [show W.heap.size = W.drew.heap.size from rfl]; simp [go_sem]⟩
    rw [show W.heap.size = W.drew.heap.size from rfl, World.cell?_alloc_new]
    rw [Array.getElem?_append_left (by simp [Bys.bvs_len]; omega)]
    by_cases e : j = l.length
    · subst e
      rw [Array.getElem?_append_right (by simp [Bys.bvs_len])]
      simp [Bys.bvs_len, List.getD]
    · have hj' : j < l.length := by omega
      rw [Array.getElem?_append_left (by simp [Bys.bvs_len]; omega)]
      simp [Bys.bvs, List.getD, hj', List.getElem?_append_left hj']
end Go.Proofs.YtilephkbcikfbaaDoor.Cur
