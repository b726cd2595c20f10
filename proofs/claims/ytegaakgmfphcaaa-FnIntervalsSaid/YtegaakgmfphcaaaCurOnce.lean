/-
  CONTRACT of the model's l1Once; and what a cursor and the bytes that it reads keep when another block grows.
-/
import Derived.Test.YtegaakgmfphcaaaCurKit
import Derived.Test.YtegaakgmfphcaaaCurBelow
namespace Go.Proofs.Ytegaakgmfphcaaa.Cur
open Go Go.RowKit
set_option linter.unusedVariables false
set_option maxRecDepth 1000000

/-- How a draw of a truth value ends. -/
def DrawnB (c : Nat) (bv : Value) (w : World) (e : Ending) (w' : World) : Prop := ∃ b : Bool, e = .returned (.bool b) ∧ CurAt w' c bv ∧ w.grownBy w' (some c)
theorem once_any (c B : Nat) (bv : Value) (n : Int) (w : World) (hcur : CurAt w c bv) (hby : Bytes w B bv) (hB : B ≤ c) (hn : n ≤ 1000000) :
    Calls Try.prog 19 #[.pointer (some ⟨c, 0, none⟩), .int .i64 n] w (DrawnB c bv w) := by
  go_enter Try.func19, Try.ntmps19
  go_wp2_with (fail)
  go_at_call 29
  refine (below_any c B bv n _ hcur hby hB (by omega)).mono ?_
  rintro e w2 ⟨x, hx, rfl, hc2, hg2⟩
  have HE := Lib.hid (And.intro hc2 hg2)
  clear hx hc2 hg2 hcur hby
  go_wp2
  go_ret
  exact ⟨_, rfl, HE.out.1, HE.out.2⟩

theorem cur_row {w w' : World} {c : Nat} {bv : Value} {row : Option Nat} (h : CurAt w c bv) (hg : w.grownBy w' row) (hne : ∀ k, row = some k → k ≠ c) : CurAt w' c bv := by
  obtain ⟨i, k, h0, hb⟩ := h
  exact ⟨i, k, h0, by rw [hg.block c (lt_of_block hb) (fun e => hne c e.symm rfl)]; exact hb⟩
theorem bytes_row {w w' : World} {B : Nat} {bv : Value} {row : Option Nat} (h : Bytes w B bv) (hg : w.grownBy w' row) (hne : ∀ k, row = some k → B ≤ k) : Bytes w' B bv := by
  rcases h with h | ⟨b, off, len, cap, f, h1, h2, h3, h4, h5⟩
  · exact Or.inl h
  · refine Or.inr ⟨b, off, len, cap, f, h1, h2, Nat.lt_of_lt_of_le h3 hg.size, h4, fun j hj => ⟨(h5 j hj).1, (h5 j hj).2.1, ?_⟩⟩
    exact hg.cell (h5 j hj).2.2 (fun e => by have := hne b e.symm; omega)
theorem gb_own {a w w1 : World} {c : Nat} {row : Option Nat} (h : a.grownBy w (some c)) (hg : w.grownBy w1 row) (hr : ∀ k, row = some k → a.heap.size ≤ k) : a.grownBy w1 (some c) :=
  ⟨hg.os.trans h.os, hg.tape.trans h.tape, hg.output.trans h.output, Nat.le_trans h.size hg.size, fun i hi hn => (hg.block i (Nat.lt_of_lt_of_le hi h.size) (fun e => by have := hr i e.symm; omega)).trans (h.block i hi hn)⟩
theorem gb_near {a w w1 : World} {c : Nat} (h : a.grownBy w (some c)) (hb : Below w.heap.size w w1) : a.grownBy w1 (some c) :=
  ⟨hb.os.trans h.os, hb.tape.trans h.tape, hb.output.trans h.output, Nat.le_trans h.size hb.size, fun i hi hn => (hb.block i (Nat.lt_of_lt_of_le hi h.size)).trans (h.block i hi hn)⟩
theorem cur_below {w w' : World} {c : Nat} {bv : Value} (h : CurAt w c bv) (hb : Below w.heap.size w w') : CurAt w' c bv := by
  obtain ⟨i, k, h0, hq⟩ := h
  exact ⟨i, k, h0, (hb.block c (lt_of_block hq)).trans hq⟩
theorem box_far {W w' : World} {c g : Nat} {a b : Value} {T : TypeId} (hW : W.heap[g]? = some (.cells #[a, b] T (0, 0))) (hg : W.grownBy w' (some c)) (hne : g ≠ c) :
    (w'.cell? ⟨g, 0, none⟩ = some a ∧ w'.cell? ⟨g, 1, none⟩ = some b) ∧ (w'.frozen? ⟨g, 0, none⟩ = false ∧ w'.frozen? ⟨g, 1, none⟩ = false) := by
  have hb := (hg.block g (lt_of_block hW) (by simpa using hne)).trans hW
  simp [World.cell?, World.frozen?, hb]
theorem box_new (w : World) (a b : Value) (T : TypeId) : (w.alloc (.cells #[a, b] T)).heap[w.heap.size]? = some (.cells #[a, b] T (0, 0)) := by
  show (w.heap.push _)[w.heap.size]? = _; simp
end Go.Proofs.Ytegaakgmfphcaaa.Cur
