/-
  PLAIN FACTS: how long the elements of a list that is divided are, and how many.
-/
import Derived.Test.YtbkjioggohjnfaaDoorSplSpec
namespace Go.Proofs.YtbkjioggohjnfaaDoor.Tx
set_option linter.unusedVariables false
set_option maxRecDepth 1000000
theorem trim_short (l : List UInt8) : (trim l).length ≤ l.length := by
  unfold trim triml trimr
  have h1 := (List.dropWhile_sublist blk (l := (l.reverse.dropWhile blk).reverse)).length_le
  have h2 := (List.dropWhile_sublist blk (l := l.reverse)).length_le
  simp at h1 h2 ⊢; omega
theorem split_elem (l : List UInt8) : ∀ x ∈ split l, x.length ≤ l.length := by
  intro x hx
  unfold split keep at hx
  obtain ⟨y, hy, rfl⟩ := List.mem_map.1 (List.mem_filter.1 hx).1
  have h1 := cuts_elem _ false l (Nat.le_refl _) y hy
  have h2 := trim_short y
  omega
theorem split_count (l : List UInt8) : (split l).length ≤ l.length + 1 := by
  have h := cuts_count _ false l (Nat.le_refl _)
  have h2 := keep_len (cuts false l)
  unfold split; omega
end Go.Proofs.YtbkjioggohjnfaaDoor.Tx
