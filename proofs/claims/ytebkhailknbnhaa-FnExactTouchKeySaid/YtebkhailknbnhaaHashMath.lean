/-
  PLAIN FACTS OF DIGESTS: the rule of Hash, number by number. No word of the program stands here.
-/
import Derived.Test.YtebkhailknbnhaaNums
namespace Go.Proofs.Ytebkhailknbnhaa.Dg
open Go Go.RowKit
set_option linter.unusedVariables false
set_option maxRecDepth 1000000

/-- One number is folded in. -/
def stp (a v : Int) : Int := (a * 1000003 + v % 2147483647 + 19) % 2147483647
def hash (zs : List Int) : Int := zs.foldl stp 7
/-- The digest of the first k numbers. -/
def pre (zs : List Int) (k : Nat) : Int := hash (zs.take k)

theorem stp_bd (a v : Int) : 0 ≤ stp a v ∧ stp a v < 2147483647 := by unfold stp; omega
theorem pre_zero (zs : List Int) : pre zs 0 = 7 := rfl
theorem pre_all (zs : List Int) {k : Nat} (h : k = zs.length) : pre zs k = hash zs := by unfold pre; rw [h, List.take_length]
theorem take_more {zs : List Int} {k : Nat} (h : k < zs.length) : zs.take (k + 1) = zs.take k ++ [zs.getD k 0] := by
  rw [List.take_succ_eq_append_getElem h]; simp [List.getD, h]
theorem hash_more (zs : List Int) (v : Int) : hash (zs ++ [v]) = stp (hash zs) v := by unfold hash; rw [List.foldl_append]; rfl
theorem pre_more {zs : List Int} {k : Nat} (h : k < zs.length) : pre zs (k + 1) = stp (pre zs k) (zs.getD k 0) := by
  unfold pre; rw [take_more h, hash_more]
theorem foldl_bd : ∀ (zs : List Int) (a : Int), 0 ≤ a ∧ a < 2147483647 → 0 ≤ zs.foldl stp a ∧ zs.foldl stp a < 2147483647
  | [], a, h => h
  | z :: zs, a, h => foldl_bd zs (stp a z) (stp_bd a z)
theorem hash_bd (zs : List Int) : 0 ≤ hash zs ∧ hash zs < 2147483647 := foldl_bd zs 7 (by omega)
theorem pre_bd (zs : List Int) (k : Nat) : 0 ≤ pre zs k ∧ pre zs k < 2147483647 := hash_bd _
theorem tmod_stp {a v : Int} (h0 : 0 ≤ a) : (a * 1000003 + v % 2147483647 + 19).tmod 2147483647 = stp a v := by
  unfold stp; exact Int.tmod_eq_emod_of_nonneg (by omega)
theorem ret_int {a b : Int} (h : a = b) : Ending.returned (.int .i64 a) = .returned (.int .i64 b) := by rw [h]
end Go.Proofs.Ytebkhailknbnhaa.Dg
