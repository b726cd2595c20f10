/-
  PLAIN FACTS: a strings.Builder stays one where nothing old is changed.
-/
import Derived.Test.YtnffoifkinpmpaaBldW
import Derived.Test.YtnffoifkinpmpaaRec
namespace Go.Proofs.Ytnffoifkinpmpaa.Bld
open Go Go.RowKit
set_option linter.unusedVariables false
set_option maxRecDepth 1000000
abbrev IsB (B b : Nat) (bs : List Value) (w : World) : Prop := Lib.IsBuilder 88 5 B b bs w
theorem isb_below {B b : Nat} {bs : List Value} {w w' : World} (h : IsB B b bs w) (hb : Below w.heap.size w w') : IsB B b bs w' := by
  have key : ∀ p, Lib.BuilderAt 88 5 B b p bs w → Lib.BuilderAt 88 5 B b p bs w' := fun p h => by
    have hlt := h.lt
    obtain ⟨hB, v, hc, hown, hne⟩ := h
    exact ⟨hB, v, by rw [hb.block _ hlt]; exact hc, Rec.row_below hown hb, hne⟩
  exact h.elim (fun x => .inl (key _ x)) (fun x => .inr (key _ x))
theorem isb_alloc {B b : Nat} {bs : List Value} {w : World} (h : IsB B b bs w) (o : Obj) : IsB B b bs (w.alloc o) := isb_below h ((Below.refl _ _).alloc (Nat.le_refl _) o)
end Go.Proofs.Ytnffoifkinpmpaa.Bld
