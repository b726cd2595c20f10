/-
  WHAT the contracts ask of the world: the program's two errors of directives are there. And: from a row's listed variables to that.
-/
import Derived.Test.YtkmkmgbehnedoaaDoorBase
import Derived.Stop.LaidErr
import Derived.LaidMore
namespace Go.Proofs.YtkmkmgbehnedoaaDoor.Dir
open Go Go.RowKit
set_option linter.unusedVariables false

def IsErr (w : World) (g : Nat) : Prop := g < w.heap.size ∧ ∃ tp p, w.cell? ⟨g, 0, none⟩ = some (.iface tp p)
theorem err_below {w w' : World} {g : Nat} (h : IsErr w g) (hb : Below w.heap.size w w') : IsErr w' g := by
  obtain ⟨hg, tp, p, hc⟩ := h
  exact ⟨Nat.lt_of_lt_of_le hg hb.size, tp, p, (hb.cell (p := ⟨g, 0, none⟩) hg).trans hc⟩
theorem err_of_var {P : Program} {w : World} {name : String} {g : Nat} {tp : TypeId} {p : Value} (hg : P.globalNamed name = some g) (h : w.var? P name = some #[.iface tp p]) : IsErr w g := by
  unfold World.var? at h
  rw [hg] at h
  simp only [Option.bind_some] at h
  have hlt : g < w.heap.size := by
    rcases Nat.lt_or_ge g w.heap.size with h' | h'
    · exact h'
    · rw [Array.getElem?_eq_none h'] at h; simp at h
  refine ⟨hlt, tp, p, ?_⟩
  unfold World.cell?
  rw [Array.getElem?_eq_getElem hlt] at h ⊢
  simp only [Option.bind_some] at h ⊢
  revert h
  cases w.heap[g] with
  | cells cs ty fz => intro h; simp [Obj.cells] at h ⊢; subst h; rfl
  | _ => intro h; simp at h
def Errs (w : World) : Prop := IsErr w 3 ∧ IsErr w 4
theorem errs_below {w w' : World} (h : Errs w) (hb : Below w.heap.size w w') : Errs w' := ⟨err_below h.1 hb, err_below h.2 hb⟩
theorem at_head {P : Program} {w : World} {n : String} {d : DataW Unit} : ∀ {l : List (String × DataW Unit)}, laidMet P l w → (n, d) ∈ l → ∃ r, laidMet P ((n, d) :: r) w
  | [], _, hm => by cases hm
  | x :: r, h, hm => by
    rcases List.mem_cons.1 hm with e | e
    · cases e; exact ⟨r, h⟩
    · exact at_head h.tail e
theorem laid_errs {l : List (String × DataW Unit)} {W : World} (h : laidMet Tryd.prog l W) (h1 : ("loop.example/g03012/impl.errDirectiveName", Rows.laid_loop_example_g03012_impl_errDirectiveName) ∈ l) (h2 : ("loop.example/g03012/impl.errDirectiveValue", Rows.laid_loop_example_g03012_impl_errDirectiveValue) ∈ l) : Errs W := by
  obtain ⟨r1, k1⟩ := at_head h h1
  obtain ⟨r2, k2⟩ := at_head h h2
  have row : ∀ u, Tryd.prog.typeName? 3 u = some "*errors.errorString" → u = 174 :=
    fun u hu => typeName_ptr_named (nm := "errors.errorString") (by kernel_rfl) (by kernel_rfl) (by decide) u hu
  have g1 : Tryd.prog.globalNamed "loop.example/g03012/impl.errDirectiveName" = some 3 := by kernel_rfl
  have g2 : Tryd.prog.globalNamed "loop.example/g03012/impl.errDirectiveValue" = some 4 := by kernel_rfl
  obtain ⟨a1, s1, v1, _⟩ := laid_sentinel k1 g1 (show (Tryd.prog.globals[3]?).map (·.type) = some 97 by kernel_rfl) Tryd.underlying97 row Tryd.underlying174 Tryd.underlying189 rfl rfl Tryd.underlying9 (by kernel_rfl) (by kernel_rfl)
  obtain ⟨a2, s2, v2, _⟩ := laid_sentinel k2 g2 (show (Tryd.prog.globals[4]?).map (·.type) = some 97 by kernel_rfl) Tryd.underlying97 row Tryd.underlying174 Tryd.underlying189 rfl rfl Tryd.underlying9 (by kernel_rfl) (by kernel_rfl)
  exact ⟨err_of_var g1 v1, err_of_var g2 v2⟩
end Go.Proofs.YtkmkmgbehnedoaaDoor.Dir
