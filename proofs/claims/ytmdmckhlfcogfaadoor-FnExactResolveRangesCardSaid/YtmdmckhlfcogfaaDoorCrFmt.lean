/-
  CONTRACTS of FormatContentRange, the model's and the program's; nothing that was there before is changed.
-/
import Derived.Test.YtmdmckhlfcogfaaDoorFmtSpec
import Derived.Test.YtmdmckhlfcogfaaDoorFmtImpl
import Derived.Test.YtmdmckhlfcogfaaDoorJoinM
import Derived.Test.YtmdmckhlfcogfaaDoorRegS
import Derived.Test.YtmdmckhlfcogfaaDoorRec
import Derived.Test.YtmdmckhlfcogfaaDoorKept
import Derived.LoopTactic
import Derived.Outline
namespace Go.Proofs.YtmdmckhlfcogfaaDoor.Crf
open Go Go.RowKit
set_option linter.unusedVariables false

abbrev In64 (n : Int) : Prop := -9223372036854775808 ≤ n ∧ n ≤ 9223372036854775807
def crf (p q n : Int) : List UInt8 := if p < q then [98, 121, 116, 101, 115, 32] ++ Lib.itoa p ++ [45] ++ Lib.itoa (q - 1) ++ [47] ++ Lib.itoa n else [98, 121, 116, 101, 115, 32, 42, 47] ++ Lib.itoa n
theorem crf_yes {p q n : Int} (h : p < q) : crf p q n = [98, 121, 116, 101, 115, 32] ++ Lib.itoa p ++ [45] ++ Lib.itoa (q - 1) ++ [47] ++ Lib.itoa n := by unfold crf; rw [if_pos h]
theorem crf_no {p q n : Int} (h : ¬ p < q) : crf p q n = [98, 121, 116, 101, 115, 32, 42, 47] ++ Lib.itoa n := by unfold crf; rw [if_neg h]
def TxtEnd (t : List UInt8) (w : World) (e : Ending) (w' : World) : Prop := e = .returned (.string ⟨t.toArray⟩) ∧ Below w.heap.size w w'
theorem ret_txt {a b : List UInt8} (h : a = b) : Ending.returned (.string ⟨a.toArray⟩) = .returned (.string ⟨b.toArray⟩) := by rw [h]
theorem il {n : Int} (h : In64 n) : (Lib.itoa n).length ≤ 20 := (Fmt.itoa_len h.1 h.2).2
/-- The class of worlds: the span's own block, and all that is old. -/
def CrS (w : World) (p q : Int) (u : World) : Prop := (u.cell? ⟨w.heap.size, 0, none⟩ = some (.int .i64 p) ∧ u.cell? ⟨w.heap.size, 1, none⟩ = some (.int .i64 q)) ∧ Below w.heap.size w u
theorem crs_call {w u u' : World} {p q : Int} (h : CrS w p q u) (hb : Below u.heap.size u u') : CrS w p q u' :=
  ⟨⟨(hb.cell (p := ⟨w.heap.size, 0, none⟩) (Rec.lt_of_cell h.1.1)).trans h.1.1, (hb.cell (p := ⟨w.heap.size, 1, none⟩) (Rec.lt_of_cell h.1.2)).trans h.1.2⟩, Base.then_below h.2 hb⟩
theorem crs_drew {w u : World} {p q : Int} (h : CrS w p q u) : CrS w p q u.drew := ⟨h.1, Rec.below_drew h.2⟩
theorem crs_start (w : World) (p q : Int) (T : TypeId) : CrS w p q (w.alloc (.cells #[.int .i64 p, .int .i64 q] T)) :=
  ⟨⟨by rw [World.cell?_alloc_new]; rfl, by rw [World.cell?_alloc_new]; rfl⟩, (Below.refl _ _).alloc (Nat.le_refl _) _⟩

theorem has_bytes (a b : Int) (w : World) : Calls Tryd.prog 39 #[.agg #[.int .i64 a, .int .i64 b]] w fun e w' => e = .returned (.bool (decide (a < b))) ∧ Below w.heap.size w w' := by
  go_enter Tryd.func39, Tryd.ntmps39
  go_wp2
  go_ret
  exact ⟨rfl, (Below.refl _ _).alloc (Nat.le_refl _) _⟩

end Go.Proofs.YtmdmckhlfcogfaaDoor.Crf
