/-
  PLAIN FACTS on texts that are built byte by byte: a byte in a new block of its own read back as a text; a text with a byte in front.
-/
import Derived.Test.YtbkjioggohjnfaaDoorBase
import Derived.LoopTactic
import Derived.Laws.IdiomStrings
import Derived.Laws.Concat
namespace Go.Proofs.YtbkjioggohjnfaaDoor.Str
open Go Go.RowKit
set_option linter.unusedVariables false
set_option maxRecDepth 1000000

theorem ret_str {a b : List UInt8} (h : a = b) : Ending.returned (.string ⟨a.toArray⟩) = .returned (.string ⟨b.toArray⟩) := by rw [h]
theorem byteback (wr : World) (z : Int) (c : UInt8) (h : (c.toNat : Int) = z) :
    (convert 48 9 (.slice (some ⟨wr.heap.size, 0, none⟩) 1 1)).run Tryd.prog (wr.alloc (.cells #[.int .u8 z] 5)) = .ok (.string ⟨[c].toArray⟩) (wr.alloc (.cells #[.int .u8 z] 5)) := by
  have h := run_convert_bytes_back (P := Tryd.prog) (wr.alloc (.cells #[.int .u8 z] 5)) 48 9 5 ⟨wr.heap.size, 0, none⟩ 1 [c] Tryd.underlying48 Tryd.underlying5 Tryd.underlying9 (fun j hj => by
    have hj0 : j = 0 := by simpa using hj
    subst hj0
    show World.cell? _ ⟨wr.heap.size, 0 + 0, none⟩ = _
    rw [World.cell?_alloc_new, ← h]
    simp)
  exact h
theorem addone (c : UInt8) (suf : List UInt8) (h : suf.length ≤ 1000000000) (W : World) :
    (Op.stringOp .add ⟨[c].toArray⟩ ⟨suf.toArray⟩).run Tryd.prog W = .ok (.string ⟨(c :: suf).toArray⟩) W := by
  rw [run_string_add_sum W _ _ (by simp [ByteArray.size]; omega)]; rfl
end Go.Proofs.YtbkjioggohjnfaaDoor.Str
