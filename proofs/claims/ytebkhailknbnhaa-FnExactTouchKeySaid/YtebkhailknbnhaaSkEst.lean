/-
  CONTRACTS of both sides' EstimateKey; nothing that was there before is changed.
-/
import Derived.Test.YtebkhailknbnhaaSkCnt
import Derived.Test.YtebkhailknbnhaaTextSpec
import Derived.Test.YtebkhailknbnhaaMinI
import Derived.Test.YtebkhailknbnhaaMinS
import Derived.Test.YtebkhailknbnhaaRegS
namespace Go.Proofs.Ytebkhailknbnhaa.Sk
open Go Go.RowKit
set_option linter.unusedVariables false
set_option maxRecDepth 1000000

/-- The least of 64 and the counts of the first rows. -/
def ests (zs : List Int) (s : List UInt8) : Nat → Int
  | 0 => 64
  | k + 1 => min (ests zs s k) (zs.getD (ix k s).toNat 0)
def est (zs : List Int) (n : Int) (s : List UInt8) : Int := if skOk zs n = true ∧ zs.length ≠ 0 then ests zs s 4 else 0
def NumEnd (z : Int) (w : World) (e : Ending) (w' : World) : Prop := e = .returned (.int .i64 z) ∧ Below w.heap.size w w'
theorem ret_n {a b : Int} (h : a = b) : Ending.returned (.int .i64 a) = .returned (.int .i64 b) := by rw [h]
theorem est_bad {zs : List Int} {n : Int} {s : List UInt8} (h : skOk zs n = false) : est zs n s = 0 := by unfold est; rw [if_neg (by rw [h]; simp)]
theorem est_nil {zs : List Int} {n : Int} {s : List UInt8} (h : zs.length = 0) : est zs n s = 0 := by unfold est; rw [if_neg (by omega)]
theorem est_ok {zs : List Int} {n : Int} {s : List UInt8} (h : skOk zs n = true) (h0 : zs.length ≠ 0) : est zs n s = ests zs s 4 := by unfold est; rw [if_pos ⟨h, h0⟩]
theorem ok_len {zs : List Int} {n : Int} (h : skOk zs n = true) (h0 : zs.length ≠ 0) : zs.length = 64 := by
  unfold skOk at h; simp only [Bool.and_eq_true, Bool.or_eq_true, decide_eq_true_eq] at h
  omega
theorem kept2 {w w1 : World} {T : TypeId} {a b : Value} (hb : Below (w.alloc (.cells #[a, b] T)).heap.size (w.alloc (.cells #[a, b] T)) w1) :
    (w1.cell? ⟨w.heap.size, 0, none⟩ = some a ∧ w1.cell? ⟨w.heap.size, 1, none⟩ = some b) ∧ Below w.heap.size w w1 := by
  have h := Kept.one hb
  exact ⟨⟨h.1 0 _ rfl, h.1 1 _ rfl⟩, Kept.below_in hb⟩

theorem text_hash_s (i : Nat) (h : i < 4) (s : List UInt8) (W : World) (hl : s.length ≤ 1048576) : Calls Try.prog 35 #[.int .i64 (i : Int), .string ⟨s.toArray⟩] W (Dg.Text (i : Int) ⟨s.toArray⟩ W) :=
  Dg.spec_text (i : Int) ⟨s.toArray⟩ W (Go.WalkArith.wf_i64 ⟨by omega, by omega⟩) (by simpa [ByteArray.size] using hl)
/-- The class of worlds behind a box and what only makes memory. -/
def GrowE (w : World) (o : Obj) (w' : World) : Prop := Below (w.alloc o).heap.size (w.alloc o) w'
theorem grow_e {w w0 w1 : World} {o : Obj} (h : GrowE w o w0) (hb : Below w0.heap.size w0 w1) : GrowE w o w1 := h.trans (hb.mono h.size)
end Go.Proofs.Ytebkhailknbnhaa.Sk
