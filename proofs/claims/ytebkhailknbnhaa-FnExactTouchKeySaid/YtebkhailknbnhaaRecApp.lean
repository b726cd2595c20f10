/-
  A LAW FOR append(built, given...): what the call has built, and behind it a slice that reads as a list of structs, whether nil, empty or not.
-/
import Derived.Test.YtebkhailknbnhaaRec
import Derived.Laws.OwnMore
import Derived.Tactics
namespace Go.Proofs.Ytebkhailknbnhaa.Rec
open Go Go.RowKit
set_option linter.unusedVariables false
set_option maxRecDepth 1000000

theorem run_append_zero {P : Program} {w : World} {base n size c : Nat} {t ty e : TypeId} {i : TypeInfo} {v : Value} {xs : List Value} (hown : w.ownsRow base e size v n xs) (hi : P.info? e = some i) (ht : P.underlying t = some (.slice e)) :
    (Builtin.append_ #[t, t] ty #[v, .slice none 0 c]).run P w = .ok v w := by
  have hu := run_underlying ht
  cases hown.2 with
  | inl h => obtain ⟨rfl, rfl⟩ := h; simp [Builtin.lenOf, Builtin.firstCells, Builtin.append_, sizeOf, typeInfo, hu, hi]
  | inr h => obtain ⟨g, cap, cur, rfl, _, _, hnc, _⟩ := h; simp [Builtin.lenOf, Builtin.firstCells, Builtin.append_, sizeOf, typeInfo, storeCells, hu, hi, hnc]
section
variable {α : Type} {n : Nat} {cs : α → List Value} {z : α}
theorem wp_append_holds (hl : ∀ a, (cs a).length = n) (h1 : ∀ a, ∀ u ∈ cs a, u.oneCell' = true) {P : Program} {w : World} {o : Oper} {a : Act} {K : Act → World → Prop} {Q : Exit → Act → World → Prop}
    (s x : Operand) (t e : TypeId) (ho : o.op = .call { callee := .builtin .append, args := #[s, x], argTypes := #[t, t] }) (ht : P.underlying t = some (.slice e))
    {i : TypeInfo} (hi : P.info? e = some i) {zv : Value} (hz : i.zero = some zv) {bytes : Nat} (hsize : i.size = n) (hby : i.bytes = bytes) (hzs : zv.cells.size = n) (hsz : 0 < n)
    {B base : Nat} {v vx : Value} {l m : List α} (hs : a.eval s = v) (hx : a.eval x = vx) (hown : w.ownsRow base e n v l.length (flat cs l)) (hm : Holds n cs z w B vx m)
    (h63 : l.length + m.length ≤ maxLen) (hbytes : (l.length + m.length) * bytes ≤ 140737488355328) (hbase : base ≤ w.heap.size)
    (h : ∀ v' w', w'.ownsRow base e n v' (l ++ m).length (flat cs (l ++ m)) → w.grownBy w' v.ownBlock → K (a.put o.dst v') w') : o.wp P a w K Q := by
  have key : ∀ (ad : Addr) (cap : Nat), vx = .slice (some ad) m.length cap → (∀ j u, (flat cs m)[j]? = some u → w.cell? (ad.add j) = some u) → o.wp P a w K Q := fun ad cap hv hc =>
    wp_append_own w s x t ho base e i zv n bytes ht hi hz hsize hby hzs hsz v l.length (flat cs l) hs hown ad m.length cap (flat cs m) (hx.trans hv) (flat_len hl m) hc (flat_one h1 m) h63 hbytes hbase
      fun v' w' h2 h3 _ => h v' w' (by rw [List.length_append, flat_append]; exact h2) h3
  rcases hm with ⟨rfl, ad, cap, rfl⟩ | ⟨h0, b, off, cap, rfl, hB, hc, hcell⟩
  · cases ad with
    | some ad => exact key ad cap rfl (fun j u hu => by simp [flat] at hu)
    | none =>
      have hh := h v w (by simpa using hown) (World.grownBy.refl w _)
      have hr := run_append_zero (P := P) (ty := o.type) (c := cap) hown hi ht
      unfold Oper.wp
      simp [hs, hx, hr, ho, execOp, resolve, invoke, builtin, Result.andThen]
      exact hh
  · refine key ⟨b, off, none⟩ cap rfl (fun j u hu => ?_)
    have hlt := (List.getElem?_eq_some_iff.1 hu).1
    rw [flat_len hl] at hlt
    have hj : j / n < m.length := (Nat.div_lt_iff_lt_mul hsz).2 hlt
    have hi' : j % n < (cs (m.getD (j / n) z)).length := by rw [hl]; exact Nat.mod_lt _ hsz
    have e1 : j / n * n + j % n = j := by rw [Nat.mul_comm]; exact Nat.div_add_mod j n
    have h3 := flat_at hl (z := z) (l := m) hj (List.getElem?_eq_getElem hi')
    rw [e1, hu] at h3
    have h4 := hcell (j / n) hj (j % n) _ (List.getElem?_eq_getElem hi')
    rw [Nat.add_assoc, e1] at h4
    rw [WideShapes.add_plain, h4, ← h3]
theorem append_holds (hl : ∀ a, (cs a).length = n) (h1 : ∀ a, ∀ u ∈ cs a, u.oneCell' = true) {P : Program} {w : World} {ops : Array Oper} {rest : List Oper} {o : Oper} {a : Act} {Q : Exit → Act → World → Prop} (hgd : o.guard = none)
    (s x : Operand) (t e : TypeId) (ho : o.op = .call { callee := .builtin .append, args := #[s, x], argTypes := #[t, t] }) (ht : P.underlying t = some (.slice e))
    {i : TypeInfo} (hi : P.info? e = some i) {zv : Value} (hz : i.zero = some zv) {bytes : Nat} (hsize : i.size = n) (hby : i.bytes = bytes) (hzs : zv.cells.size = n) (hsz : 0 < n)
    {B base : Nat} {v vx : Value} {l m : List α} (hs : a.eval s = v) (hx : a.eval x = vx) (hown : w.ownsRow base e n v l.length (flat cs l)) (hm : Holds n cs z w B vx m)
    (h63 : l.length + m.length ≤ maxLen) (hbytes : (l.length + m.length) * bytes ≤ 140737488355328) (hbase : base ≤ w.heap.size)
    (h : ∀ v' w', w'.ownsRow base e n v' (l ++ m).length (flat cs (l ++ m)) → w.grownBy w' v.ownBlock → wpList P ops Q rest (a.put o.dst v') w') : wpList P ops Q (o :: rest) a w :=
  wpList_plain hgd fun _ hK => wp_append_holds hl h1 s x t e ho ht hi hz hsize hby hzs hsz hs hx hown hm h63 hbytes hbase fun v' w' h2 h3 => hK _ _ (h v' w' h2 h3)
/-- At a step of a region that draws its order. -/
theorem step_holds (hl : ∀ a, (cs a).length = n) (h1 : ∀ a, ∀ u ∈ cs a, u.oneCell' = true) {P : Program} {w : World} {ops : Array Oper} {o : Oper} {a : Act} {K : Act → World → Prop} {E : Prop} {Q : Exit → Act → World → Prop} (hgd : o.guard = none)
    (s x : Operand) (t e : TypeId) (ho : o.op = .call { callee := .builtin .append, args := #[s, x], argTypes := #[t, t] }) (ht : P.underlying t = some (.slice e))
    {i : TypeInfo} (hi : P.info? e = some i) {zv : Value} (hz : i.zero = some zv) {bytes : Nat} (hsize : i.size = n) (hby : i.bytes = bytes) (hzs : zv.cells.size = n) (hsz : 0 < n)
    {B base : Nat} {v vx : Value} {l m : List α} (hs : a.eval s = v) (hx : a.eval x = vx) (hown : w.ownsRow base e n v l.length (flat cs l)) (hm : Holds n cs z w B vx m)
    (h63 : l.length + m.length ≤ maxLen) (hbytes : (l.length + m.length) * bytes ≤ 140737488355328) (hbase : base ≤ w.heap.size)
    (h : ∀ v' w', w'.ownsRow base e n v' (l ++ m).length (flat cs (l ++ m)) → w.grownBy w' v.ownBlock → K (a.put o.dst v') w') : if Region.wanted o (yielded ops a.tmps) = true then Oper.wp P o a w K Q else E := by
  have hw : Region.wanted o (yielded ops a.tmps) = true := by simp [Region.wanted, hgd]
  rw [if_pos hw]
  exact wp_append_holds hl h1 s x t e ho ht hi hz hsize hby hzs hsz hs hx hown hm h63 hbytes hbase h
end
end Go.Proofs.Ytebkhailknbnhaa.Rec
