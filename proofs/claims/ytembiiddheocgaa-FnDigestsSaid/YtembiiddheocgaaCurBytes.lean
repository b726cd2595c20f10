/-
  CONTRACT of the model's l1Bytes: it draws n bytes into a new slice of its own, writes into the cursor alone, and leaves it a cursor over the same bytes.
-/
import Derived.Test.YtembiiddheocgaaCurNew
import Derived.Test.YtembiiddheocgaaPush
import Derived.Test.YtembiiddheocgaaByteStr
import Derived.OwnWalk
import Derived.Laws.OwnMore
import Derived.Laws.BytesArg
namespace Go.Proofs.Ytembiiddheocgaa.Cur
open Go Go.RowKit
set_option linter.unusedVariables false

theorem info_byte : (Try.prog.info? 5).map (fun i => (i.zero, i.size, i.bytes)) = some (some (.int .u8 0), 1, 1) := by kernel_rfl
def u8s (l : List Int) : List Value := l.map (Value.int .u8)
def Bytish (l : List Int) : Prop := ∀ z ∈ l, 0 ≤ z ∧ z ≤ 255

theorem cur_step {w w' : World} {c : Nat} {bv : Value} {row : Option Nat} (h : CurAt w c bv) (hg : w.grownBy w' row) (hne : ∀ k, row = some k → k ≠ c) : CurAt w' c bv := by
  obtain ⟨i, k, h0, hb⟩ := h
  exact ⟨i, k, h0, by rw [hg.block c (lt_of_block hb) (fun e => hne c e.symm rfl)]; exact hb⟩
/-- Behind a step of one's own: a new block, and writes to a block that is not older than B. -/
theorem gb_own {a w w1 : World} {c : Nat} {o : Obj} {row : Option Nat} (h : a.grownBy w (some c)) (hg : (w.alloc o).grownBy w1 row) (hr : ∀ k, row = some k → a.heap.size ≤ k) : a.grownBy w1 (some c) :=
  ⟨hg.os.trans h.os, hg.tape.trans h.tape, hg.output.trans h.output, Nat.le_trans h.size (Nat.le_trans (by simp) hg.size), fun i hi hn =>
    ((hg.block i (by have := h.size; simp; omega) (fun e => by have := hr i e.symm; omega)).trans (Below.heap_alloc w o i (Nat.lt_of_lt_of_le hi h.size))).trans (h.block i hi hn)⟩
theorem bytes_gb {w w' : World} {B c : Nat} {bv : Value} (h : Bytes w B bv) (hg : w.grownBy w' (some c)) (hc : B ≤ c) : Bytes w' B bv := bytes_kept h hg hc

theorem u8s_more (l : List Int) (x : Int) : u8s (l ++ [x]) = u8s l ++ [.int .u8 x] := by unfold u8s; rw [List.map_append]; rfl
theorem bytish_more {l : List Int} {x : Int} (h : Bytish l) (h0 : 0 ≤ x) (h1 : x ≤ 255) : Bytish (l ++ [x]) := by
  intro z hz
  rcases List.mem_append.1 hz with hz | hz
  · exact h z hz
  · simp at hz; subst hz; exact ⟨h0, h1⟩
/-- A slice of bytes that the call has built, read as a text. -/
theorem own_str {w : World} {base : Nat} {e : TypeId} {v : Value} {l : List Int} (h : w.ownsRow base e 1 v l.length (u8s l)) :
    ∃ s : ByteArray, s.size = l.length ∧ (convert 22 9 v).run Try.prog w = .ok (.string s) w := by
  have h' := h
  rcases h.2 with ⟨rfl, h0⟩ | ⟨g, cap, cur, rfl, _⟩
  · exact ⟨ByteArray.empty, by rw [h0]; rfl, run_convert_bytes_nil w 22 5 Try.underlying22 Try.underlying5 0 0 9 Try.underlying9⟩
  · refine ⟨strOfNums l, strOfNums_size l, run_convert_bytes_arg w 22 5 Try.underlying22 Try.underlying5 g 0 l.length cap l rfl (fun i hi => ?_) 9 Try.underlying9⟩
    rw [Nat.zero_add, h'.cellAt i (by omega)]
    simp [u8s, List.getD, hi]
/-- How l1Bytes ends. -/
def DrewBytes (n : Nat) (c : Nat) (bv : Value) (w : World) (e : Ending) (w' : World) : Prop :=
  ∃ v l, e = .returned v ∧ l.length = n ∧ Bytish l ∧ w'.ownsRow w.heap.size 5 1 v l.length (u8s l) ∧ CurAt w' c bv ∧ w.grownBy w' (some c)

set_option maxHeartbeats 1000000 in
theorem bytes_any (c B : Nat) (bv : Value) (n : Nat) (w : World) (hcur : CurAt w c bv) (hby : Bytes w B bv) (hB : B ≤ c) (hn : n ≤ 1000000) :
    Calls Try.prog 23 #[.pointer (some ⟨c, 0, none⟩), .int .i64 n] w (DrewBytes n c bv w) := by
  obtain ⟨i0, hi, hz0, hz1, hz2⟩ := info_parts info_byte
  have hcl := cur_lt hcur
  have hO : (w.alloc (.cells #[] 5)).ownsRow w.heap.size 5 1 (.slice (some ⟨w.heap.size, 0, none⟩) 0 0) 0 (u8s []) := World.ownsRow_lit w #[] 0 (Nat.le_refl _) (by decide) rfl
  have HO := Lib.hid hO
  have HC := Lib.hid (cur_alloc hcur (.cells #[] 5))
  clear hO
  go_enter Try.func23, Try.ntmps23
  go_wp2
  go_loopw [5, 6] (fun v i wr => ∃ (k : Nat) (l : List Int), k ≤ n ∧ i = .int .i64 k ∧ l.length = k ∧ Bytish l ∧ wr.ownsRow w.heap.size 5 1 v l.length (u8s l) ∧ CurAt wr c bv ∧ w.grownBy wr (some c))
    (fun _ i _ => n - (intOf i).toNat)
  case atStart => exact ⟨0, [], Nat.zero_le _, rfl, rfl, (fun z hz => by cases hz), HO.out, HC.out, World.grownBy_alloc _ _ _⟩
  case round =>
    clear HO HC
    obtain ⟨k, l, hk, rfl, hll, hbl, hown, hcu, hg⟩ := hrel
    by_cases hlt : k < n
    · have hbw := bytes_kept hby hg hB
      have HB := Lib.hid hbl
      clear hbl
      go_wp2_with (first
        | (go_at_call 27; refine (byte_any c B bv _ hcu hbw hB).mono ?_; rintro e w1 ⟨x, ⟨hx0, hx1⟩, rfl, hc1, hg1⟩; have hown1 := hown.kept hg1 (Or.inr (fun e => by have := (hown.lt c e).1; omega)))
        | (at_builtin; refine wpList_append_own _ rfl _ _ 22 rfl w.heap.size 5 i0 (.int .u8 0) 1 1 Try.underlying22 hi hz0 hz1 hz2 rfl (by decide) _ _ _ rfl (hown1.alloc _) ⟨w1.heap.size, 0, none⟩ 1 1 [.int .u8 x] rfl rfl (Nums.news_one _ _ _) (Nums.one_cell _ _) (by unfold maxLen; omega) (by omega) (by have := hg.size; have := hg1.size; simp; omega) ?_; intro v2 w2 hown2 hg2 _))
      have HR := Lib.hid (And.intro (cur_step (cur_alloc hc1 _) hg2 (fun k e => by have := (hown.lt k e).1; omega)) (gb_own (gb_trans hg hg1) hg2 (fun k e => (hown.lt k e).1)))
      have HO2 := Lib.hid hown2
      clear hown hown1 hg2 hown2 hg hg1 hcu hc1
      go_wp2
      go_roundw
      case rel => exact ⟨k + 1, l ++ [x], by omega, by go_num, by simp; omega, bytish_more HB.out hx0 hx1, by rw [List.length_append, u8s_more]; exact HO2.out, HR.out.1, HR.out.2⟩
      case measure => simp [intOf]; omega
    · obtain rfl : k = n := by omega
      go_wp2
      go_ret
      exact ⟨_, l, rfl, hll, hbl, hown, hcu, hg⟩
end Go.Proofs.Ytembiiddheocgaa.Cur
