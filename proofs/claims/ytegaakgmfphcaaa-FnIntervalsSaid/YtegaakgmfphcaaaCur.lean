/-
  CONTRACT of the drawing cursor of the model (l1Byte): whatever is drawn, the call answers a number from 0 to 255, writes into the cursor alone, and leaves it a cursor over the same bytes.
-/
import Derived.Test.YtegaakgmfphcaaaBase
import Derived.RegionTactic
import Derived.ChangeAlike
import Derived.OwnWalk
namespace Go.Proofs.Ytegaakgmfphcaaa.Cur
open Go Go.RowKit
set_option linter.unusedVariables false
set_option maxRecDepth 1000000

theorem i64_and255 (n : Int) : bits .and .i64 n 255 = n % 256 := by
  have h255 : (BitVec.ofInt 64 255).toNat = 2 ^ 8 - 1 := by decide
  have key : (BitVec.ofInt 64 n &&& BitVec.ofInt 64 255).toNat = (n % ((2 ^ 64 : Nat) : Int)).toNat % 2 ^ 8 := by
    rw [BitVec.toNat_and, BitVec.toNat_ofInt, h255, Nat.and_two_pow_sub_one_eq_mod]
  show IntKind.i64.wrap ((BitVec.ofInt 64 n &&& BitVec.ofInt 64 255).toNat : Nat) = n % 256
  rw [key, IntKind.wrap_i64]
  omega
theorem and255_bd (n : Int) : 0 ≤ bits .and .i64 n 255 ∧ bits .and .i64 n 255 ≤ 255 := by rw [i64_and255]; omega

/-- Block c is a cursor over bv. -/
def CurAt (w : World) (c : Nat) (bv : Value) : Prop := ∃ i h : Int, 0 ≤ i ∧ w.heap[c]? = some (.cells #[bv, .int .i64 i, .int .i64 h] 46 (0, 0))
/-- bv is a slice of bytes that lie below block B. -/
def CodeAt (w : World) (B : Nat) (bv : Value) : Prop := ∃ (b off len cap : Nat) (f : Nat → Int), bv = .slice (some ⟨b, off, none⟩) len cap ∧ b < B ∧ b < w.heap.size ∧ len ≤ 140737488355328 ∧ ∀ j, j < len → 0 ≤ f j ∧ f j ≤ 255 ∧ w.cell? ⟨b, off + j, none⟩ = some (.int .u8 (f j))
/-- A slice of bytes, maybe empty. -/
def Bytes (w : World) (B : Nat) (bv : Value) : Prop := (∃ a cap, bv = .slice a 0 cap) ∨ CodeAt w B bv

theorem gb_trans {a b c : World} {row : Option Nat} (h : a.grownBy b row) (k : b.grownBy c row) : a.grownBy c row :=
  ⟨k.os.trans h.os, k.tape.trans h.tape, k.output.trans h.output, Nat.le_trans h.size k.size, fun i hi hn => (k.block i (Nat.lt_of_lt_of_le hi h.size) hn).trans (h.block i hi hn)⟩
theorem gb_set (w : World) (c o : Nat) (v : Value) : w.grownBy (w.setCell ⟨c, o, none⟩ v) (some c) :=
  ⟨rfl, rfl, rfl, by simp [World.setCell], fun k hk hn => Below.heap_setCell _ _ _ _ (fun e => hn (by rw [e]))⟩
theorem gb_drew {a w : World} {row : Option Nat} (h : a.grownBy w row) : a.grownBy w.drew row := ⟨h.os, h.tape, h.output, h.size, h.block⟩
theorem bytes_kept {w w' : World} {B c : Nat} {bv : Value} (h : Bytes w B bv) (hg : w.grownBy w' (some c)) (hc : B ≤ c) : Bytes w' B bv := by
  rcases h with h | ⟨b, off, len, cap, f, h1, h2, h3, h4, h5⟩
  · exact Or.inl h
  · refine Or.inr ⟨b, off, len, cap, f, h1, h2, Nat.lt_of_lt_of_le h3 hg.size, h4, fun j hj => ⟨(h5 j hj).1, (h5 j hj).2.1, ?_⟩⟩
    exact hg.cell (h5 j hj).2.2 (by simp; omega)
theorem below_gb {a w w' : World} {B c : Nat} (h : Below B a w) (hg : w.grownBy w' (some c)) (hB : B ≤ w.heap.size) (hc : B ≤ c) : Below B a w' := h.grown hg hB (fun k e => by cases e; exact hc)

theorem lt_of_block {w : World} {b : Nat} {o : Obj} (h : w.heap[b]? = some o) : b < w.heap.size := by
  rcases Nat.lt_or_ge b w.heap.size with h' | h'
  · exact h'
  · simp [Array.getElem?_eq_none h'] at h
/-- What a cursor's block holds, cell for cell. -/
theorem cur_cells {w : World} {c : Nat} {v0 v1 v2 : Value} {T : TypeId} (h : w.heap[c]? = some (.cells #[v0, v1, v2] T (0, 0))) :
    w.cell? ⟨c, 0, none⟩ = some v0 ∧ w.cell? ⟨c, 1, none⟩ = some v1 ∧ w.cell? ⟨c, 2, none⟩ = some v2 ∧ w.frozen? ⟨c, 1, none⟩ = false ∧ w.frozen? ⟨c, 2, none⟩ = false := by
  simp [World.cell?, World.frozen?, h]
theorem cur_set2 {w : World} {c : Nat} {v0 v1 v2 u : Value} {T : TypeId} (h : w.heap[c]? = some (.cells #[v0, v1, v2] T (0, 0))) :
    (w.setCell ⟨c, 2, none⟩ u).heap[c]? = some (.cells #[v0, v1, u] T (0, 0)) := by
  have hlt := lt_of_block h
  have h' : w.heap[c] = .cells #[v0, v1, v2] T (0, 0) := by simpa [Array.getElem?_eq_getElem hlt] using h
  show (w.heap.modify c _)[c]? = _
  rw [Array.getElem?_eq_getElem (by simpa using hlt), Array.getElem_modify_self, h']
  rfl
theorem cur_set1 {w : World} {c : Nat} {v0 v1 v2 u : Value} {T : TypeId} (h : w.heap[c]? = some (.cells #[v0, v1, v2] T (0, 0))) :
    (w.setCell ⟨c, 1, none⟩ u).heap[c]? = some (.cells #[v0, u, v2] T (0, 0)) := by
  have hlt := lt_of_block h
  have h' : w.heap[c] = .cells #[v0, v1, v2] T (0, 0) := by simpa [Array.getElem?_eq_getElem hlt] using h
  show (w.heap.modify c _)[c]? = _
  rw [Array.getElem?_eq_getElem (by simpa using hlt), Array.getElem_modify_self, h']
  rfl

/-- How a draw ends: a number x with P x; the cursor alone has changed. -/
def Drawn (P : Int → Prop) (c : Nat) (bv : Value) (w : World) (e : Ending) (w' : World) : Prop :=
  ∃ x : Int, P x ∧ e = .returned (.int .i64 x) ∧ CurAt w' c bv ∧ w.grownBy w' (some c)

theorem byte_done (c : Nat) (a : Option Addr) (len cap : Nat) (i h : Int) (w : World)
    (hb : w.heap[c]? = some (.cells #[.slice a len cap, .int .i64 i, .int .i64 h] 46 (0, 0))) (h0 : 0 ≤ i) (hi : ¬ i < (len : Int)) :
    Calls Try.prog 36 #[.pointer (some ⟨c, 0, none⟩)] w (Drawn (fun x => 0 ≤ x ∧ x ≤ 255) c (.slice a len cap) w) := by
  obtain ⟨hc0, hc1, hc2, hf1, hf2⟩ := cur_cells hb
  have HB := Lib.hid hb
  have H0 := Lib.hid h0
  clear hb h0
  go_enter Try.func36, Try.ntmps36
  go_wp2
  go_region
  go_wp2
  go_region
  go_wp2
  go_ret
  exact ⟨_, and255_bd _, rfl, ⟨i, _, H0.out, cur_set2 HB.out⟩, gb_drew (gb_drew (gb_set _ _ _ _))⟩

theorem byte_more (c : Nat) (b off len cap : Nat) (z i h : Int) (w : World)
    (hb : w.heap[c]? = some (.cells #[.slice (some ⟨b, off, none⟩) len cap, .int .i64 i, .int .i64 h] 46 (0, 0))) (h0 : 0 ≤ i) (hi : i < (len : Int))
    (hl : len ≤ 140737488355328) (hbc : b ≠ c) (hz : w.cell? ⟨b, off + i.toNat, none⟩ = some (.int .u8 z)) (hz0 : 0 ≤ z) (hz1 : z ≤ 255) :
    Calls Try.prog 36 #[.pointer (some ⟨c, 0, none⟩)] w (Drawn (fun x => 0 ≤ x ∧ x ≤ 255) c (.slice (some ⟨b, off, none⟩) len cap) w) := by
  obtain ⟨hc0, hc1, hc2, hf1, hf2⟩ := cur_cells hb
  have HB := Lib.hid hb
  clear hb
  go_enter Try.func36, Try.ntmps36
  go_wp2
  go_region
  go_wp2
  go_region
  go_wp2
  go_region
  go_wp2
  go_ret
  exact ⟨_, and255_bd _, rfl, ⟨i + 1, _, by omega, cur_set1 (cur_set2 HB.out)⟩, gb_trans (gb_set _ _ _ _) (gb_drew (gb_drew (gb_drew (gb_set _ _ _ _))))⟩
end Go.Proofs.Ytegaakgmfphcaaa.Cur
