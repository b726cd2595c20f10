/-
  PLAIN FACTS OF HEXADECIMAL DIGITS: the last k digits of a number, one in front of the other. No word of the program stands here.
-/
import Derived.Test.YtembiiddheocgaaBase
namespace Go.Proofs.Ytembiiddheocgaa.Hex
open Go Go.RowKit
set_option linter.unusedVariables false

def hexd (d : Nat) : UInt8 := if d < 10 then UInt8.ofNat (48 + d) else UInt8.ofNat (87 + d)
/-- The last k digits of n. -/
def hx (n : Nat) : Nat → List UInt8
  | 0 => []
  | k + 1 => hexd (n / 16 ^ k % 16) :: hx n k
theorem hx_zero (n : Nat) : hx n 0 = [] := rfl
theorem hx_more (n k : Nat) : hx n (k + 1) = hexd (n / 16 ^ k % 16) :: hx n k := rfl
theorem hx_len (n : Nat) : ∀ k, (hx n k).length = k
  | 0 => rfl
  | k + 1 => by rw [hx_more, List.length_cons, hx_len n k]
theorem hexd_low {d : Nat} (h : d < 10) : (hexd d).toNat = 48 + d := by
  unfold hexd; rw [if_pos h, UInt8.toNat_ofNat']; omega
theorem hexd_high {d : Nat} (h : ¬ d < 10) (h2 : d < 16) : (hexd d).toNat = 87 + d := by
  unfold hexd; rw [if_neg h, UInt8.toNat_ofNat']; omega
theorem i64_and15 (n : Int) : bits .and .i64 n 15 = n % 16 := by
  have h15 : (BitVec.ofInt 64 15).toNat = 2 ^ 4 - 1 := by decide
  have key : (BitVec.ofInt 64 n &&& BitVec.ofInt 64 15).toNat = (n % ((2 ^ 64 : Nat) : Int)).toNat % 2 ^ 4 := by
    rw [BitVec.toNat_and, BitVec.toNat_ofInt, h15, Nat.and_two_pow_sub_one_eq_mod]
  show IntKind.i64.wrap ((BitVec.ofInt 64 n &&& BitVec.ofInt 64 15).toNat : Nat) = n % 16
  rw [key, IntKind.wrap_i64]
  omega
theorem dig_shr (n k : Nat) : bits .and .i64 ((n : Int) / 2 ^ (4 * k)) 15 = ((n / 16 ^ k % 16 : Nat) : Int) := by
  rw [i64_and15, Int.pow_mul]
  have : ((2 : Int) ^ 4) ^ k = ((16 ^ k : Nat) : Int) := by rw [Int.natCast_pow]; rfl
  rw [this]; omega
theorem dig_lt (n k : Nat) : n / 16 ^ k % 16 < 16 := Nat.mod_lt _ (by omega)
end Go.Proofs.Ytembiiddheocgaa.Hex
