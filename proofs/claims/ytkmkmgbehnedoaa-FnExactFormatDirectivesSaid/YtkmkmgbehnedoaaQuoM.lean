/-
  PLAIN FACTS on a quoted string that is being written.
-/
import Derived.Test.YtkmkmgbehnedoaaTxMath
import Derived.Test.YtkmkmgbehnedoaaTokList
import Derived.Test.YtkmkmgbehnedoaaBys
namespace Go.Proofs.Ytkmkmgbehnedoaa.Tx
open Go Go.RowKit Bys
set_option linter.unusedVariables false

/-- The quoted string when k bytes are in. -/
def quk (l : List UInt8) (k : Nat) : List UInt8 := 34 :: (l.take k).flatMap qot
theorem quk_zero (l : List UInt8) : quk l 0 = [34] := by unfold quk; simp
theorem quk_more (s : ByteArray) {k : Nat} (h : k < s.size) : quk s.data.toList (k + 1) = quk s.data.toList k ++ qot s[k] := by
  unfold quk; rw [take_snoc s k h, List.flatMap_append]; simp
theorem quk_all {l : List UInt8} {k : Nat} (h : k = l.length) : quk l k ++ [34] = quo l := by unfold quk quo; subst h; simp
theorem qot_len (c : UInt8) : (qot c).length ≤ 2 := by unfold qot; split <;> simp
theorem flat_len (l : List UInt8) : (l.flatMap qot).length ≤ 2 * l.length := by
  induction l with
  | nil => simp
  | cons a r ih => rw [List.flatMap_cons, List.length_append, List.length_cons]; have := qot_len a; omega
theorem quk_len (l : List UInt8) (k : Nat) : (quk l k).length ≤ 2 * k + 1 := by
  unfold quk; rw [List.length_cons]; have := flat_len (l.take k); have := List.length_take_le k l; omega
theorem qot_yes {c : UInt8} (h : c = 34 ∨ c = 92) : qot c = [92, c] := by unfold qot; rw [if_pos (by rcases h with h | h <;> simp [h])]
theorem qot_no {c : UInt8} (h : ¬ (c = 34 ∨ c = 92)) : qot c = [c] := by unfold qot; rw [if_neg (by simpa using h)]
theorem two_own {B : Nat} {a w w1 w2 : World} {v v1 v2 : Value} {l : List UInt8} {c d : UInt8} {o o' : Obj} (hown : Own w B v l) (hb : Below a.heap.size a w) (hB : a.heap.size ≤ B)
    (h1 : w1.ownsRow B 5 1 v1 (l.length + 1) (bvs l ++ [bvl c])) (hg1 : (w.alloc o).grownBy w1 v.ownBlock)
    (h2 : w2.ownsRow B 5 1 v2 (l.length + 1 + 1) (bvs l ++ [bvl c] ++ [bvl d])) (hg2 : (w1.alloc o').grownBy w2 v1.ownBlock) :
    Own w2 B v2 (l ++ [c, d]) ∧ Below a.heap.size a w2 := by
  have R1 := push_own hown hb hB h1 hg1
  have R2 := push_own (c := d) R1.1 R1.2 hB (by rw [List.length_append, bvs_more]; exact h2) hg2
  rw [List.append_assoc] at R2
  exact R2

end Go.Proofs.Ytkmkmgbehnedoaa.Tx
