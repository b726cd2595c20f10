/-
  WHAT the contracts ask of the world: the program's two errors of directives are there. And: from a row's listed variables to that.
-/
import Derived.Test.YtindnhmigljkaaaDoorBase
import Derived.Stop.LaidErr
import Derived.LaidMore
namespace Go.Proofs.YtindnhmigljkaaaDoor.Dir
open Go Go.RowKit
set_option linter.unusedVariables false
set_option maxRecDepth 1000000

def IsErr (w : World) (g : Nat) : Prop := g < w.heap.size ∧ ∃ tp p, w.cell? ⟨g, 0, none⟩ = some (.iface tp p)
theorem err_below {w w' : World} {g : Nat} (h : IsErr w g) (hb : Below w.heap.size w w') : IsErr w' g := by
  obtain ⟨hg, tp, p, hc⟩ := h
  exact ⟨Nat.lt_of_lt_of_le hg hb.size, tp, p, (hb.cell (p := ⟨g, 0, none⟩) hg).trans hc⟩
theorem err_of_var {P : Program} {w : World} {name : String} {g : Nat} {tp : TypeId} {p : Value} (hg : P.globalNamed name = some g) (h : w.var? P name = some #[.iface tp p]) : IsErr w g := by
  unfold World.var? at h
  rw [hg] at h
  simp only [Option.bind_some] at h
  have hlt : g < w.heap.size := by
    rcases Nat.lt_or_ge g w.heap.size with h' | h'
    · exact h'
    · rw [Array.getElem?_eq_none h'] at h; simp at h
  refine ⟨hlt, tp, p, ?_⟩
  unfold World.cell?
  rw [Array.getElem?_eq_getElem hlt] at h ⊢
  simp only [Option.bind_some] at h ⊢
  revert h
  cases w.heap[g] with
  | cells cs ty fz => intro h; simp [Obj.cells] at h ⊢; subst h; rfl
  | _ => intro h; simp at h
theorem at_head {P : Program} {w : World} {n : String} {d : DataW Unit} : ∀ {l : List (String × DataW Unit)}, laidMet P l w → (n, d) ∈ l → ∃ r, laidMet P ((n, d) :: r) w
  | [], _, hm => by cases hm
  | x :: r, h, hm => by
    rcases List.mem_cons.1 hm with e | e
    · cases e; exact ⟨r, h⟩
    · exact at_head h.tail e
end Go.Proofs.YtindnhmigljkaaaDoor.Dir
