/-
  PLAIN FACTS on the bytes of a text, one by one.
-/
import Derived.Test.YtobhdfkhfmpdlaaDoorTxMath
namespace Go.Proofs.YtobhdfkhfmpdlaaDoor.Tx
open Go
set_option linter.unusedVariables false
set_option maxRecDepth 1000000

theorem take_snoc (s : ByteArray) (k : Nat) (h : k < s.size) : s.data.toList.take (k + 1) = s.data.toList.take k ++ [s[k]] := by
  rw [List.take_succ_eq_append_getElem (by simpa using h)]; rfl
theorem drop_cons (s : ByteArray) (k : Nat) (h : k < s.size) : s.data.toList.drop k = s[k] :: s.data.toList.drop (k + 1) := by
  rw [List.drop_eq_getElem_cons (by simpa using h)]; rfl
theorem list_len (s : ByteArray) : s.data.toList.length = s.size := by rw [Array.length_toList]; rfl
theorem eq_nat {c : UInt8} {n : Nat} (hn : n < 256) : ((c.toNat : Int) == (n : Int)) = (c == UInt8.ofNat n) := by
  rw [Bool.eq_iff_iff, beq_iff_eq, beq_iff_eq]
  constructor
  · intro h; exact UInt8.toNat_inj.1 (by simp; omega)
  · intro h; rw [h]; simp; omega
theorem e34 (c : UInt8) : ((c.toNat : Int) == 34) = (c == 34) := eq_nat (n := 34) (by omega)
theorem e92 (c : UInt8) : ((c.toNat : Int) == 92) = (c == 92) := eq_nat (n := 92) (by omega)
theorem e44 (c : UInt8) : ((c.toNat : Int) == 44) = (c == 44) := eq_nat (n := 44) (by omega)

end Go.Proofs.YtobhdfkhfmpdlaaDoor.Tx
