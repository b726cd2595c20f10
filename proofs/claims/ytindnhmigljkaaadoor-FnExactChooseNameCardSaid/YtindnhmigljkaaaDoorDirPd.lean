/-
  CONTRACTS of the program's parseDirective and directiveValue: an element that is a directive, or an error; nothing that was there before is changed.
-/
import Derived.Test.YtindnhmigljkaaaDoorDirReadM
import Derived.Test.YtindnhmigljkaaaDoorDirErr
import Derived.Test.YtindnhmigljkaaaDoorTokFn
import Derived.Test.YtindnhmigljkaaaDoorUnqI
import Derived.Test.YtindnhmigljkaaaDoorLowI
import Derived.Outline
import Derived.RegionTactic
namespace Go.Proofs.YtindnhmigljkaaaDoor.Dir
open Go Go.RowKit
set_option linter.unusedVariables false
set_option maxRecDepth 1000000

def Got (t : List UInt8) (w : World) (e : Ending) (w' : World) : Prop := e = .returned (.tuple #[.string ⟨t.toArray⟩, .nilIface]) ∧ Below w.heap.size w w'
def Bad (w : World) (e : Ending) (w' : World) : Prop := (∃ tp p, e = .returned (.tuple #[.string ⟨#[]⟩, .iface tp p])) ∧ Below w.heap.size w w'

/-- The result's own cells are there behind what a call did. -/
theorem res_kept {w w1 : World} {T : TypeId} {x y z : Value} (hb : Below (w.alloc (.cells #[x, y, z] T)).heap.size (w.alloc (.cells #[x, y, z] T)) w1) :
    w1.cell? ⟨w.heap.size, 0, none⟩ = some x ∧ w1.cell? ⟨w.heap.size, 1, none⟩ = some y ∧ w1.cell? ⟨w.heap.size, 2, none⟩ = some z ∧ w1.frozen? ⟨w.heap.size, 0, none⟩ = false ∧ w1.frozen? ⟨w.heap.size, 1, none⟩ = false ∧ w1.frozen? ⟨w.heap.size, 2, none⟩ = false := by
  refine ⟨?_, ?_, ?_, ?_, ?_, ?_⟩
  · rw [hb.cell (p := ⟨w.heap.size, 0, none⟩) (by simp), World.cell?_alloc_new]; rfl
  · rw [hb.cell (p := ⟨w.heap.size, 1, none⟩) (by simp), World.cell?_alloc_new]; rfl
  · rw [hb.cell (p := ⟨w.heap.size, 2, none⟩) (by simp), World.cell?_alloc_new]; rfl
  · rw [hb.frozen (p := ⟨w.heap.size, 0, none⟩) (by simp)]; simp [go_sem]
  · rw [hb.frozen (p := ⟨w.heap.size, 1, none⟩) (by simp)]; simp [go_sem]
  · rw [hb.frozen (p := ⟨w.heap.size, 2, none⟩) (by simp)]; simp [go_sem]

def PdYes (d : T) (w : World) (e : Ending) (w' : World) : Prop := e = .returned (.tuple #[fv d, .nilIface]) ∧ Below w.heap.size w w'
def PdNo (w : World) (e : Ending) (w' : World) : Prop := (∃ tp p, e = .returned (.tuple #[fv ([], [], false), .iface tp p])) ∧ Below w.heap.size w w'
theorem pair_i {x a b : List UInt8} {q : Bool} (hp : Tx.pairs x = (a, b, q)) (hl : x.length ≤ 1048576) (W : World) : Calls Tryd.prog 46 #[.string ⟨x.toArray⟩] W fun e w' => e = .returned (.tuple #[.string ⟨a.toArray⟩, .string ⟨b.toArray⟩, .bool q]) ∧ Below W.heap.size W w' := by
  have h := Tx.impl_pair ⟨x.toArray⟩ W (by simp [ByteArray.size]; omega)
  unfold Tx.PairEnd at h
  rw [show (⟨x.toArray⟩ : ByteArray).data.toList = x from rfl, hp] at h
  exact h
theorem tok_i (a : List UInt8) (hl : a.length ≤ 1048576) (W : World) : Calls Tryd.prog 39 #[.string ⟨a.toArray⟩] W fun e w' => e = .returned (.bool (Tx.token a)) ∧ W = w' := Tx.impl_token ⟨a.toArray⟩ W (by simp [ByteArray.size]; omega)
theorem low_i (a : List UInt8) (hl : a.length ≤ 1048576) (W : World) : Calls Tryd.prog 41 #[.string ⟨a.toArray⟩] W fun e w' => e = .returned (.string ⟨(Tx.lower a).toArray⟩) ∧ Below W.heap.size W w' := Tx.impl_lower ⟨a.toArray⟩ W (by simp [ByteArray.size]; omega)

end Go.Proofs.YtindnhmigljkaaaDoor.Dir
