/-
  PLAIN FACTS on a quoted string that is being read.
-/
import Derived.Test.YtindnhmigljkaaaDoorTxMath
import Derived.Test.YtindnhmigljkaaaDoorTokList
import Derived.Test.YtindnhmigljkaaaDoorBys
namespace Go.Proofs.YtindnhmigljkaaaDoor.Tx
open Go Go.RowKit Bys
set_option linter.unusedVariables false
set_option maxRecDepth 1000000

theorem unq_nil : unq [] = ([], none) := by rw [unq]
theorem unq_34 (r : List UInt8) : unq (34 :: r) = ([], some r) := by cases r <;> simp [unq]
theorem unq_esc (d : UInt8) (r : List UInt8) : unq (92 :: d :: r) = (d :: (unq r).1, (unq r).2) := by rw [unq, if_neg (by decide), if_pos (by decide)]
theorem unq_plain {c : UInt8} {r : List UInt8} (h1 : c ≠ 34) (h2 : c ≠ 92 ∨ r = []) : unq (c :: r) = (c :: (unq r).1, (unq r).2) := by
  have h34 : ¬ (c == 34) = true := by simpa using h1
  cases r with
  | nil => simp [unq, h1]
  | cons d t =>
    rcases h2 with h2 | h2
    · rw [unq, if_neg h34, if_neg (by simpa using h2)]
    · cases h2
/-- What is read when k bytes are behind: l so far. -/
def UQ (s : ByteArray) (k : Nat) (l : List UInt8) : Prop := l ++ (unq (s.data.toList.drop k)).1 = unqText s.data.toList ∧ (unq (s.data.toList.drop k)).2 = (unq (s.data.toList.drop 1)).2 ∧ l.length ≤ k
theorem uq_start (s : ByteArray) : UQ s 1 [] := ⟨by unfold unqText; simp, rfl, by simp⟩
theorem uq_plain {s : ByteArray} {k : Nat} {l : List UInt8} (h : UQ s k l) (hk : k < s.size) (h1 : s[k] ≠ 34) (h2 : s[k] ≠ 92 ∨ s.size ≤ k + 1) : UQ s (k + 1) (l ++ [s[k]]) := by
  obtain ⟨a, b, c⟩ := h
  have h2' : s[k] ≠ 92 ∨ s.data.toList.drop (k + 1) = [] := by
    rcases h2 with h2 | h2
    · exact Or.inl h2
    · exact Or.inr (List.drop_eq_nil_of_le (by rw [list_len]; exact h2))
  rw [drop_cons s k hk, unq_plain h1 h2'] at a b
  exact ⟨by rw [List.append_assoc]; exact a, b, by rw [List.length_append]; simp; omega⟩
theorem uq_esc {s : ByteArray} {k : Nat} {l : List UInt8} (h : UQ s k l) (hk : k < s.size) (hk1 : k + 1 < s.size) (h2 : s[k] = 92) : UQ s (k + 1 + 1) (l ++ [s[k + 1]]) := by
  obtain ⟨a, b, c⟩ := h
  rw [drop_cons s k hk, drop_cons s (k + 1) hk1, h2, unq_esc] at a b
  exact ⟨by rw [List.append_assoc]; exact a, b, by rw [List.length_append]; simp; omega⟩
theorem uq_end {s : ByteArray} {k : Nat} {l : List UInt8} (h : UQ s k l) (hk : s.size ≤ k) : l = unqText s.data.toList ∧ unqOk s.data.toList = false := by
  obtain ⟨a, b, c⟩ := h
  rw [List.drop_eq_nil_of_le (by rw [list_len]; exact hk), unq_nil] at a b
  refine ⟨by simpa using a, ?_⟩
  unfold unqOk
  rw [← b]; simp
theorem head_at {s : ByteArray} (h : 0 < s.size) : s.data.toList.head? = some s[0] := by
  have := drop_cons s 0 h
  rw [List.drop_zero] at this
  rw [this]; rfl
theorem uq_quote {s : ByteArray} {k : Nat} {l : List UInt8} (h : UQ s k l) (hk : k < s.size) (h1 : s[k] = 34) (h0 : 0 < s.size) : l = unqText s.data.toList ∧ unqOk s.data.toList = (s[0] == 34 && ((k : Int) == (s.size : Int) - 1)) := by
  obtain ⟨a, b, c⟩ := h
  rw [drop_cons s k hk, h1, unq_34] at a b
  refine ⟨by simpa using a, ?_⟩
  unfold unqOk
  rw [← b, head_at h0, Bool.eq_iff_iff, Bool.and_eq_true, Bool.and_eq_true]
  refine and_congr (by simp) ?_
  simp only [beq_iff_eq, Option.some.injEq, List.drop_eq_nil_iff, list_len]
  omega

/-- How UnquoteText ends. -/
def Unq (l : List UInt8) (w : World) (e : Ending) (w' : World) : Prop := e = .returned (.tuple #[.string ⟨(unqText l).toArray⟩, .bool (unqOk l)]) ∧ Below w.heap.size w w'
theorem unq_ret {l m : List UInt8} {b : Bool} {w : World} {e : Ending} {w' : World} (h : m = unqText l ∧ unqOk l = b) (hb : Below w.heap.size w w') (he : e = .returned (.tuple #[.string ⟨m.toArray⟩, .bool b])) : Unq l w e w' := by
  obtain ⟨rfl, rfl⟩ := h; exact ⟨he, hb⟩
theorem below_drewN {B : Nat} {a w : World} (h : Below B a w) (n : Nat) : Below B a (w.drewN n) := ⟨h.os, h.tape, h.output, h.size, h.block⟩

end Go.Proofs.YtindnhmigljkaaaDoor.Tx
