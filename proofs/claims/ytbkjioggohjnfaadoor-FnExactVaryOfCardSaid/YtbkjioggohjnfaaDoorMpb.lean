/-
  PLAIN FACTS on a map from texts to bools that the call has made, taken as a set: what it holds behind a store of true, behind a delete, and what a look-up answers; laws at the operations for the walk.
-/
import Derived.Test.YtbkjioggohjnfaaDoorRec
import Derived.Maps.OwnSet
import Derived.Maps.OwnOps
import Derived.Maps.Views
namespace Go.Proofs.YtbkjioggohjnfaaDoor.Mpb
open Go Go.RowKit Go.Maps
set_option linter.unusedVariables false
set_option maxRecDepth 1000000

/-- Block b is a set of texts: x is in it just where f says so; at most n were put in. -/
def Set (w : World) (P : Program) (K E : TypeId) (b n : Nat) (f : List UInt8 → Bool) : Prop := ∃ D : DataW Unit, w.ownsMap P K (plainElem P E) b n D ∧ ∀ s : List UInt8, D.atKey (.string s) (.lit (.bool false)) = .lit (.bool (f s))
section
variable {P : Program} {K E : TypeId} {b n : Nat} {f : List UInt8 → Bool} {w w' : World}
theorem made (w : World) : Set (w.alloc (.map #[] 0)) P K E w.heap.size 0 (fun _ => false) :=
  ⟨_, World.ownsMap_made w P K _, fun s => WideAt.atKey_none _ (fun p hp => by cases hp)⟩
theorem kept {row : Option Nat} (h : Set w P K E b n f) (hg : w.grownBy w' row) (hne : some b ≠ row) : Set w' P K E b n f := by
  obtain ⟨D, h1, h2⟩ := h
  exact ⟨D, h1.kept hg hne, h2⟩
theorem below (h : Set w P K E b n f) (hb : Below w.heap.size w w') : Set w' P K E b n f := kept (row := none) h (Rec.grown_of_below hb) (by simp)
theorem lt (h : Set w P K E b n f) : b < w.heap.size := by obtain ⟨D, h1, _⟩ := h; exact h1.lt
theorem same {g : List UInt8 → Bool} (h : Set w P K E b n f) (hf : ∀ x, f x = g x) : Set w P K E b n g := by
  obtain ⟨D, h1, h2⟩ := h
  exact ⟨D, h1, fun s => by rw [h2, hf]⟩
theorem bool_inv (he : P.underlying E = some .bool) {v : Value} {z : DataW Unit × List MemPlace} (h : plainElem P E v = some z) : ∃ c, v = .bool c ∧ z = (.lit (.bool c), []) := by
  unfold plainElem at h
  rw [he] at h
  cases v <;> simp at h
  obtain rfl := h
  exact ⟨_, rfl, rfl⟩

/-- m[s], at the operation. -/
theorem look (w : World) {ops : Array Oper} {rest : List Oper} {o : Oper} {a : Act} {Q : Exit → Act → World → Prop}
    (hg : o.guard = none) (m x : Operand) (t : TypeId) (hop : o.op = Op.lookup t m x false) (K E : TypeId)
    (ht : P.underlying t = some (.map K E)) (hk : P.underlying K = some .string) (he : P.underlying E = some .bool) (hz : (zeroValue E).run P w = .ok (.bool false) w) (b n : Nat) (f : List UInt8 → Bool)
    (hm : a.eval m = .map (some b)) (hs : Set w P K E b n f) (s : ByteArray) (hx : a.eval x = .string s) (hl : s.size ≤ maxLen) (c0 : Bool) (hc0 : f s.data.toList = c0)
    (hK : wpList P ops Q rest (a.put o.dst (.bool c0)) w) :
    wpList P ops Q (o :: rest) a w := by
  obtain ⟨D, hown, hD⟩ := hs
  refine wpList_plain hg fun K' hK' => ?_
  obtain ⟨v, ps, hrun, hv⟩ := hown.lookup (string_keyed hk) ht hz (plainElem_bool he false) (WideMaps.keyOf_string_mk hk hl)
  obtain ⟨c, rfl, hc⟩ := bool_inv he hv
  rw [hD, hc0] at hc
  simp only [Prod.mk.injEq, DataW.lit.injEq, Lit.bool.injEq] at hc
  rw [hc.1] at hK
  unfold Oper.wp
  simp [execOp, hop, hm, hx, hrun, Result.andThen]
  exact hK' _ _ hK

/-- m[s] = true, at the operation. -/
theorem put (w : World) {ops : Array Oper} {rest : List Oper} {o : Oper} {a : Act} {Q : Exit → Act → World → Prop}
    (hg : o.guard = none) (m x v : Operand) (t : TypeId) (hop : o.op = Op.mapUpdate t m x v) (K E : TypeId)
    (ht : P.underlying t = some (.map K E)) (hk : P.underlying K = some .string) (he : P.underlying E = some .bool) (b n : Nat) (f : List UInt8 → Bool)
    (hm : a.eval m = .map (some b)) (hs : Set w P K E b n f) (hn : n < maxLen) (s : ByteArray) (hx : a.eval x = .string s) (hv : a.eval v = .bool true) (hl : s.size ≤ maxLen)
    (hK : ∀ w', Set w' P K E b (n + 1) (fun y => y == s.data.toList || f y) → w.grownBy w' (some b) → wpList P ops Q rest (a.put o.dst undef) w') :
    wpList P ops Q (o :: rest) a w := by
  obtain ⟨D, hown, hD⟩ := hs
  refine wpList_mapUpdate_own w hg m x v t hop K E (string_keyed hk) ht (plainElem P E) b n D hm hown hn _ _ (.string s.data.toList) hx hv (WideMaps.keyOf_string_mk hk hl) (.lit (.bool true)) [] (plainElem_bool he true) ?_
  intro w' h1 h2
  refine hK w' ⟨_, h1, fun y => ?_⟩ h2
  by_cases e : y = s.data.toList
  · subst e
    rw [atKey_put_same hown.isMap (by first | trivial | (simp [WideAt.IsKeyLit]) | decide)]
    simp
  · rw [atKey_put_other (fun h => e (by injection h)), hD]
    simp [e]

/-- delete(m, s), at the operation. -/
theorem drop (w : World) {ops : Array Oper} {rest : List Oper} {o : Oper} {a : Act} {Q : Exit → Act → World → Prop}
    (hg : o.guard = none) (m x : Operand) (t K : TypeId) (hop : o.op = Op.call { callee := Callee.builtin Builtin.delete, args := #[m, x], argTypes := #[t, K] }) (E : TypeId)
    (ht : P.underlying t = some (.map K E)) (hk : P.underlying K = some .string) (b n : Nat) (f : List UInt8 → Bool)
    (hm : a.eval m = .map (some b)) (hs : Set w P K E b n f) (s : ByteArray) (hx : a.eval x = .string s) (hl : s.size ≤ maxLen)
    (hK : ∀ w', Set w' P K E b n (fun y => !(y == s.data.toList) && f y) → w.grownBy w' (some b) → wpList P ops Q rest (a.put o.dst (.tuple #[])) w') :
    wpList P ops Q (o :: rest) a w := by
  obtain ⟨D, hown, hD⟩ := hs
  refine wpList_delete_own w hg m x t K hop E (string_keyed hk) ht (plainElem P E) b n D hm hown _ (.string s.data.toList) hx (WideMaps.keyOf_string_mk hk hl) ?_
  intro w' h1 h2
  refine hK w' ⟨_, h1, fun y => ?_⟩ h2.grown
  by_cases e : y = s.data.toList
  · subst e
    rw [atKey_del_same]
    simp
  · rw [atKey_del_other (fun h => e (by injection h)), hD]
    simp [e]
end
end Go.Proofs.YtbkjioggohjnfaaDoor.Mpb
