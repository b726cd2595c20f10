/-
  CONTRACT of the model's Hash: over every slice of integers it returns the digest that the rule gives; the world stays as it was.
-/
import Derived.Test.YtebkhailknbnhaaHashMath
import Derived.Test.YtebkhailknbnhaaNumSpecMod
import Derived.LoopTactic
namespace Go.Proofs.Ytebkhailknbnhaa.Dg
open Go Go.RowKit
set_option linter.unusedVariables false
set_option maxRecDepth 1000000

theorem spec_hash_nil (a : Option Addr) (cap : Nat) (w : World) :
    Calls Try.prog 66 #[.slice a 0 cap] w fun e w' => e = .returned (.int .i64 7) ∧ w = w' := by
  go_enter Try.func66, Try.ntmps66
  go_wp2
  go_loop [3, 4] (fun d i => d = .int .i64 7 ∧ i = .int .i64 0) (fun _ i => 0)
  case atStart => exact ⟨rfl, rfl⟩
  case round =>
    obtain ⟨rfl, rfl⟩ := hrel
    go_wp2
    go_ret
    exact ⟨rfl, rfl⟩

theorem spec_hash_some (b off cap : Nat) (zs : List Int) (w : World) (hc : Nums.At w b off zs) (hw : Nums.Wf zs) (hl : zs.length ≤ 1000000000000) :
    Calls Try.prog 66 #[.slice (some ⟨b, off, none⟩) zs.length cap] w fun e w' => e = .returned (.int .i64 (hash zs)) ∧ w = w' := by
  have HC := Lib.hid hc
  have HW := Lib.hid hw
  clear hc hw
  go_enter Try.func66, Try.ntmps66
  go_wp2
  go_loop [3, 4] (fun d i => ∃ k : Nat, k ≤ zs.length ∧ i = .int .i64 k ∧ d = .int .i64 (pre zs k)) (fun _ i => zs.length - (intOf i).toNat)
  case atStart => exact ⟨0, Nat.zero_le _, rfl, rfl⟩
  case round =>
    obtain ⟨k, hk, rfl, rfl⟩ := hrel
    by_cases hlt : k < zs.length
    · have hcell := HC.out k hlt
      have hwf := Nums.wf_getD HW.out hlt
      obtain ⟨p0, p1⟩ := pre_bd zs k
      have HP := Lib.hid (pre_more hlt)
      obtain ⟨z, hz⟩ : ∃ z, z = zs.getD k 0 := ⟨_, rfl⟩
      rw [← hz] at hcell hwf
      have c1 := NumDiv.spec_mod z 2147483647 w hwf (by decide)
      rw [NumDiv.md_in (by omega) (by omega)] at c1
      have hm0 := Int.emod_nonneg z (show (2147483647 : Int) ≠ 0 by omega)
      have hm1 := Int.emod_lt_of_pos z (show (0 : Int) < 2147483647 by omega)
      have HZ := Lib.hid hz
      clear hz hwf
      go_wp2_with (fail)
      go_at_call 89
      refine c1.mono ?_
      rintro e w' ⟨rfl, rfl⟩
      go_wp2
      go_round
      case rel => exact ⟨k + 1, by omega, by go_num, by rw [HP.out, ← HZ.out]; rfl⟩
      case measure => simp [intOf]; omega
    · have HP := Lib.hid (pre_all zs (show k = zs.length by omega))
      go_wp2
      go_ret
      exact ⟨ret_int HP.out, rfl⟩

/-- The model's Hash, over every slice of integers. -/
theorem spec_hash (v : Value) (zs : List Int) (w : World) (h : Nums.Holds w v zs) (hw : Nums.Wf zs) (hl : zs.length ≤ 1000000000000) :
    Calls Try.prog 66 #[v] w fun e w' => e = .returned (.int .i64 (hash zs)) ∧ w = w' := by
  rcases h with ⟨rfl, a, cap, rfl⟩ | ⟨h0, b, off, cap, rfl, hc⟩
  · exact spec_hash_nil a cap w
  · exact spec_hash_some b off cap zs w hc hw hl
end Go.Proofs.Ytebkhailknbnhaa.Dg
