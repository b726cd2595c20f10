/-
  CONTRACTS AND PLAIN FACTS, several texts in one; each says in its own words what it proves.
-/
import Derived.Test.YtojmkdggkaocdaaGreatDoorPvA
import Derived.Laws.OwnMore
import Derived.Tactics
import Derived.Test.YtojmkdggkaocdaaGreatDoorPvAH
import Derived.Deep.RegionHeldLaw
import Derived.RegionTactic
import Derived.Deep.RegionWith

/-
  A LAW FOR append(built, given...): what the call has built, and behind it a slice that reads as a list of structs, whether nil, empty or not.
-/
namespace Go.Proofs.YtojmkdggkaocdaaGreatDoor.Rec
open Go Go.RowKit
set_option linter.unusedVariables false
set_option maxRecDepth 1000000

theorem run_append_zero {P : Program} {w : World} {base n size c : Nat} {t ty e : TypeId} {i : TypeInfo} {v : Value} {xs : List Value} (hown : w.ownsRow base e size v n xs) (hi : P.info? e = some i) (ht : P.underlying t = some (.slice e)) :
    (Builtin.append_ #[t, t] ty #[v, .slice none 0 c]).run P w = .ok v w := by
  have hu := run_underlying ht
  cases hown.2 with
  | inl h => obtain ⟨rfl, rfl⟩ := h; simp [Builtin.lenOf, Builtin.firstCells, Builtin.append_, sizeOf, typeInfo, hu, hi]
  | inr h => obtain ⟨g, cap, cur, rfl, _, _, hnc, _⟩ := h; simp [Builtin.lenOf, Builtin.firstCells, Builtin.append_, sizeOf, typeInfo, storeCells, hu, hi, hnc]
section
variable {α : Type} {n : Nat} {cs : α → List Value} {z : α}
theorem wp_append_holds (hl : ∀ a, (cs a).length = n) (h1 : ∀ a, ∀ u ∈ cs a, u.oneCell' = true) {P : Program} {w : World} {o : Oper} {a : Act} {K : Act → World → Prop} {Q : Exit → Act → World → Prop}
    (s x : Operand) (t e : TypeId) (ho : o.op = .call { callee := .builtin .append, args := #[s, x], argTypes := #[t, t] }) (ht : P.underlying t = some (.slice e))
    {i : TypeInfo} (hi : P.info? e = some i) {zv : Value} (hz : i.zero = some zv) {bytes : Nat} (hsize : i.size = n) (hby : i.bytes = bytes) (hzs : zv.cells.size = n) (hsz : 0 < n)
    {B base : Nat} {v vx : Value} {l m : List α} (hs : a.eval s = v) (hx : a.eval x = vx) (hown : w.ownsRow base e n v l.length (flat cs l)) (hm : Holds n cs z w B vx m)
    (h63 : l.length + m.length ≤ maxLen) (hbytes : (l.length + m.length) * bytes ≤ 140737488355328) (hbase : base ≤ w.heap.size)
    (h : ∀ v' w', w'.ownsRow base e n v' (l ++ m).length (flat cs (l ++ m)) → w.grownBy w' v.ownBlock → K (a.put o.dst v') w') : o.wp P a w K Q := by
  have key : ∀ (ad : Addr) (cap : Nat), vx = .slice (some ad) m.length cap → (∀ j u, (flat cs m)[j]? = some u → w.cell? (ad.add j) = some u) → o.wp P a w K Q := fun ad cap hv hc =>
    wp_append_own w s x t ho base e i zv n bytes ht hi hz hsize hby hzs hsz v l.length (flat cs l) hs hown ad m.length cap (flat cs m) (hx.trans hv) (flat_len hl m) hc (flat_one h1 m) h63 hbytes hbase
      fun v' w' h2 h3 _ => h v' w' (by rw [List.length_append, flat_append]; exact h2) h3
  rcases hm with ⟨rfl, ad, cap, rfl⟩ | ⟨h0, b, off, cap, rfl, hB, hc, hcell⟩
  · cases ad with
    | some ad => exact key ad cap rfl (fun j u hu => by simp [flat] at hu)
    | none =>
      have hh := h v w (by simpa using hown) (World.grownBy.refl w _)
      have hr := run_append_zero (P := P) (ty := o.type) (c := cap) hown hi ht
      unfold Oper.wp
      simp [hs, hx, hr, ho, execOp, resolve, invoke, builtin, Result.andThen]
      exact hh
  · refine key ⟨b, off, none⟩ cap rfl (fun j u hu => ?_)
    have hlt := (List.getElem?_eq_some_iff.1 hu).1
    rw [flat_len hl] at hlt
    have hj : j / n < m.length := (Nat.div_lt_iff_lt_mul hsz).2 hlt
    have hi' : j % n < (cs (m.getD (j / n) z)).length := by rw [hl]; exact Nat.mod_lt _ hsz
    have e1 : j / n * n + j % n = j := by rw [Nat.mul_comm]; exact Nat.div_add_mod j n
    have h3 := flat_at hl (z := z) (l := m) hj (List.getElem?_eq_getElem hi')
    rw [e1, hu] at h3
    have h4 := hcell (j / n) hj (j % n) _ (List.getElem?_eq_getElem hi')
    rw [Nat.add_assoc, e1] at h4
    rw [WideShapes.add_plain, h4, ← h3]
theorem append_holds (hl : ∀ a, (cs a).length = n) (h1 : ∀ a, ∀ u ∈ cs a, u.oneCell' = true) {P : Program} {w : World} {ops : Array Oper} {rest : List Oper} {o : Oper} {a : Act} {Q : Exit → Act → World → Prop} (hgd : o.guard = none)
    (s x : Operand) (t e : TypeId) (ho : o.op = .call { callee := .builtin .append, args := #[s, x], argTypes := #[t, t] }) (ht : P.underlying t = some (.slice e))
    {i : TypeInfo} (hi : P.info? e = some i) {zv : Value} (hz : i.zero = some zv) {bytes : Nat} (hsize : i.size = n) (hby : i.bytes = bytes) (hzs : zv.cells.size = n) (hsz : 0 < n)
    {B base : Nat} {v vx : Value} {l m : List α} (hs : a.eval s = v) (hx : a.eval x = vx) (hown : w.ownsRow base e n v l.length (flat cs l)) (hm : Holds n cs z w B vx m)
    (h63 : l.length + m.length ≤ maxLen) (hbytes : (l.length + m.length) * bytes ≤ 140737488355328) (hbase : base ≤ w.heap.size)
    (h : ∀ v' w', w'.ownsRow base e n v' (l ++ m).length (flat cs (l ++ m)) → w.grownBy w' v.ownBlock → wpList P ops Q rest (a.put o.dst v') w') : wpList P ops Q (o :: rest) a w :=
  wpList_plain hgd fun _ hK => wp_append_holds hl h1 s x t e ho ht hi hz hsize hby hzs hsz hs hx hown hm h63 hbytes hbase fun v' w' h2 h3 => hK _ _ (h v' w' h2 h3)
/-- At a step of a region that draws its order. -/
theorem step_holds (hl : ∀ a, (cs a).length = n) (h1 : ∀ a, ∀ u ∈ cs a, u.oneCell' = true) {P : Program} {w : World} {ops : Array Oper} {o : Oper} {a : Act} {K : Act → World → Prop} {E : Prop} {Q : Exit → Act → World → Prop} (hgd : o.guard = none)
    (s x : Operand) (t e : TypeId) (ho : o.op = .call { callee := .builtin .append, args := #[s, x], argTypes := #[t, t] }) (ht : P.underlying t = some (.slice e))
    {i : TypeInfo} (hi : P.info? e = some i) {zv : Value} (hz : i.zero = some zv) {bytes : Nat} (hsize : i.size = n) (hby : i.bytes = bytes) (hzs : zv.cells.size = n) (hsz : 0 < n)
    {B base : Nat} {v vx : Value} {l m : List α} (hs : a.eval s = v) (hx : a.eval x = vx) (hown : w.ownsRow base e n v l.length (flat cs l)) (hm : Holds n cs z w B vx m)
    (h63 : l.length + m.length ≤ maxLen) (hbytes : (l.length + m.length) * bytes ≤ 140737488355328) (hbase : base ≤ w.heap.size)
    (h : ∀ v' w', w'.ownsRow base e n v' (l ++ m).length (flat cs (l ++ m)) → w.grownBy w' v.ownBlock → K (a.put o.dst v') w') : if Region.wanted o (yielded ops a.tmps) = true then Oper.wp P o a w K Q else E := by
  have hw : Region.wanted o (yielded ops a.tmps) = true := by simp [Region.wanted, hgd]
  rw [if_pos hw]
  exact wp_append_holds hl h1 s x t e ho ht hi hz hsize hby hzs hsz hs hx hown hm h63 hbytes hbase h
end
end Go.Proofs.YtojmkdggkaocdaaGreatDoor.Rec

/-
  PLAIN FACTS for putting a text into a list at a place, and for texts joined with one byte.
-/
namespace Go.Proofs.YtojmkdggkaocdaaGreatDoor.Nt
open Go Go.RowKit
set_option linter.unusedVariables false
set_option maxRecDepth 1000000
set_option maxRecDepth 1000000


def scs (a : List UInt8) : List Value := [Strs.sv a]
theorem scs_len : ∀ a, (scs a).length = 1 := fun _ => rfl
theorem scs_one : ∀ a, ∀ u ∈ scs a, u.oneCell' = true := fun a => Strs.sv_one a
theorem flat_scs (l : List (List UInt8)) : Rec.flat scs l = Strs.svs l := by
  induction l with
  | nil => rfl
  | cons c r ih =>
    show scs c ++ Rec.flat scs r = _
    rw [ih]; rfl
theorem rec_at {w : World} {b off : Nat} {l : List (List UInt8)} (h : Strs.At w b off l) : Rec.At 1 scs [] w b off l := fun j hj i u hu => by
  unfold scs at hu
  match i, hu with
  | 0, hu => simp at hu; subst hu; rw [Nat.mul_one, Nat.add_zero]; exact h j hj
theorem amp_snoc (s : List UInt8) : ∀ (xs : List (List UInt8)) (x : List UInt8), xs ≠ [] → Lib.join (xs ++ [x]) s = Lib.join xs s ++ s ++ x
  | [], _, h => absurd rfl h
  | [a], x, _ => by simp [Lib.join, List.intercalate, List.intersperse]
  | a :: b :: r, x, _ => by
    have ih := amp_snoc s (b :: r) x (by simp)
    have e : ∀ t, Lib.join (a :: b :: t) s = a ++ s ++ Lib.join (b :: t) s := fun t => by simp [Lib.join, List.intercalate, List.intersperse]
    rw [List.cons_append, List.cons_append, e, e, ← List.cons_append, ih]; simp
theorem amp_first {xs : List (List UInt8)} (h : 0 < xs.length) : Lib.join (xs.take (0 + 1)) [38] = xs.getD 0 [] := by
  match xs, h with
  | x :: r, _ => simp [Lib.join, List.intercalate, List.intersperse]
theorem amp_more {xs : List (List UInt8)} {k : Nat} (h : k < xs.length) (h0 : 0 < k) : Lib.join (xs.take (k + 1)) [38] = Lib.join (xs.take k) [38] ++ [38] ++ xs.getD k [] := by
  rw [take_more h, amp_snoc]
  intro e
  have := congrArg List.length e
  simp at this
  rcases this with h | h
  · omega
  · subst h; simp at *
theorem amp_app (ys : List (List UInt8)) : ∀ xs : List (List UInt8), (Lib.join xs [38]).length ≤ (Lib.join (xs ++ ys) [38]).length := by
  induction ys with
  | nil => intro xs; simp
  | cons y r ih =>
    intro xs
    have h := ih (xs ++ [y])
    rw [List.append_assoc, List.singleton_append] at h
    refine Nat.le_trans ?_ h
    by_cases e : xs = []
    · subst e; simp [Lib.join]
    · rw [amp_snoc _ _ _ e]; simp
theorem amp_take (xs : List (List UInt8)) (k : Nat) : (Lib.join (xs.take k) [38]).length ≤ (Lib.join xs [38]).length := by
  have := amp_app (xs.drop k) (xs.take k)
  rw [List.take_append_drop] at this; exact this
theorem ba {a w : World} (h : Below a.heap.size a w) (o : Obj) : Below a.heap.size a (w.alloc o) := h.alloc h.size o
theorem bg {a w w' : World} {B n : Nat} {T : TypeId} {v : Value} {xs : List Value} (h : Below a.heap.size a w) (hown : w.ownsRow B T 1 v n xs) (hB : a.heap.size ≤ B) (hg : w.grownBy w' v.ownBlock) : Below a.heap.size a w' :=
  h.grown hg h.size (fun k e => Nat.le_trans hB (hown.lt k e).1)
theorem pre_holds {w : World} {B g cap m : Nat} {xs : List (List UInt8)} (h : Strs.Own w B (.slice (some ⟨g, 0, none⟩) xs.length cap) xs) (hm : m ≤ xs.length) : Rec.Holds 1 scs [] w w.heap.size (.slice (some ⟨g, 0, none⟩) m cap) (xs.take m) := by
  by_cases h0 : m = 0
  · subst h0; exact Or.inl ⟨by simp, _, _, rfl⟩
  · have hc : ∀ j, j < xs.length → w.cell? ⟨g, j, none⟩ = some (Strs.sv (xs.getD j [])) := fun j hj => Strs.own_cell h hj
    have hl : (xs.take m).length = m := by rw [List.length_take]; omega
    refine Or.inr ⟨by omega, g, 0, cap, by rw [hl], Strs.lt_of_cell (hc 0 (by omega)), ?_, rec_at (fun j hj => ?_)⟩
    · rcases h.2 with ⟨e, _⟩ | ⟨g', cap', cur, e, _, _, hn, hcap, _⟩
      · simp at e
      · simp at e; obtain ⟨_, rfl⟩ := e; omega
    · rw [Nat.zero_add, hc j (by omega)]; rw [hl] at hj; congr 2; simp [List.getD, hj]
theorem suf_holds {w : World} {B g cap m : Nat} {xs : List (List UInt8)} (c2 : Nat) (h : Strs.Own w B (.slice (some ⟨g, 0, none⟩) xs.length cap) xs) (hm : m ≤ xs.length) (hc2 : c2 = cap - m) : Rec.Holds 1 scs [] w w.heap.size (.slice (some ⟨g, m, none⟩) (xs.length - m) c2) (xs.drop m) := by
  by_cases h0 : m = xs.length
  · subst h0; rw [Nat.sub_self]; exact Or.inl ⟨by simp, _, _, rfl⟩
  · have hc : ∀ j, j < xs.length → w.cell? ⟨g, j, none⟩ = some (Strs.sv (xs.getD j [])) := fun j hj => Strs.own_cell h hj
    have hl : (xs.drop m).length = xs.length - m := by rw [List.length_drop]
    refine Or.inr ⟨by omega, g, m, c2, by rw [hl], Strs.lt_of_cell (hc 0 (by omega)), ?_, rec_at (fun j hj => ?_)⟩
    · rcases h.2 with ⟨e, _⟩ | ⟨g', cap', cur, e, _, _, hn, hcap, _⟩
      · simp at e
      · simp at e; obtain ⟨_, rfl⟩ := e; omega
    · rw [hc (m + j) (by omega)]; congr 2; simp [List.getD, List.getElem?_drop]
theorem one_holds (w : World) (c : List UInt8) (T : TypeId) : Rec.Holds 1 scs [] (w.alloc (.cells #[.string ⟨c.toArray⟩] T)) (w.alloc (.cells #[.string ⟨c.toArray⟩] T)).heap.size (.slice (some ⟨w.heap.size, 0, none⟩) 1 1) [c] :=
  Or.inr ⟨by simp, w.heap.size, 0, 1, rfl, by rw [World.size_alloc]; omega, by simp, rec_at (fun j hj => by
    simp at hj; subst hj
    show World.cell? _ ⟨w.heap.size, 0 + 0, none⟩ = _
    rw [World.cell?_alloc_new]; simp [Strs.sv])⟩
theorem own_nil {w : World} {B N : Nat} {T : TypeId} (hB : B ≤ w.heap.size) (hN : w.heap.size = N) : (w.alloc (.cells #[] T)).ownsRow B T 1 (.slice (some ⟨N, 0, none⟩) 0 0) ([] : List (List UInt8)).length (Rec.flat scs []) := by
  subst hN; exact Rec.own_mono (Rec.own_lit_nil (cs := scs) _ _) hB
theorem one_first {w w' : World} {c : List UInt8} {T : TypeId} {o : Obj} {N : Nat} (hg : ((w.alloc (.cells #[.string ⟨c.toArray⟩] T)).alloc o).grownBy w' (some (N + 1))) (hN : w.heap.size = N) : Rec.Holds 1 scs [] w' w'.heap.size (.slice (some ⟨N, 0, none⟩) 1 1) [c] := by
  subst hN
  have h : w'.cell? ⟨w.heap.size, 0, none⟩ = some (Strs.sv c) := hg.cell (by
    rw [World.cell?_alloc_lt _ _ _ (by rw [World.size_alloc]; show w.heap.size < _; omega)]
    rw [World.cell?_alloc_new]; simp [Strs.sv]) (fun e => by have := Option.some.inj e; simp at this)
  exact Or.inr ⟨by simp, w.heap.size, 0, 1, rfl, Strs.lt_of_cell h, by simp, rec_at (fun j hj => by simp at hj; subst hj; exact h)⟩
theorem one_then {w w' : World} {c : List UInt8} {T : TypeId} {o : Obj} {N : Nat} (hg : ((w.alloc o).alloc (.cells #[.string ⟨c.toArray⟩] T)).grownBy w' (some N)) (hN : w.heap.size = N) : Rec.Holds 1 scs [] w' w'.heap.size (.slice (some ⟨N + 1, 0, none⟩) 1 1) [c] := by
  subst hN
  have h : w'.cell? ⟨w.heap.size + 1, 0, none⟩ = some (Strs.sv c) := hg.cell (by
    rw [show w.heap.size + 1 = (w.alloc o).heap.size from (World.size_alloc _ _).symm, World.cell?_alloc_new]; simp [Strs.sv]) (fun e => by have := Option.some.inj e; simp at this)
  exact Or.inr ⟨by simp, w.heap.size + 1, 0, 1, rfl, Strs.lt_of_cell h, by simp, rec_at (fun j hj => by simp at hj; subst hj; exact h)⟩
end Go.Proofs.YtojmkdggkaocdaaGreatDoor.Nt
