/-
  CONTRACT of the program's Hash: over every slice of integers it returns the digest that the rule gives; the world stays as it was.
-/
import Derived.Test.YtebkhailknbnhaaHashMath
import Derived.Test.YtebkhailknbnhaaNumImplMod
import Derived.LoopTactic
namespace Go.Proofs.Ytebkhailknbnhaa.Dg
open Go Go.RowKit
set_option linter.unusedVariables false
set_option maxRecDepth 1000000

theorem fold_num (a v : Int) (w : World) (h0 : 0 ≤ a) (h1 : a < 2147483647) (wv : (Lit.int .i64 v).wf = true) :
    Calls Try.prog 103 #[.int .i64 a, .int .i64 v] w fun e w' => e = .returned (.int .i64 (stp a v)) ∧ w = w' := by
  have hm0 := Int.emod_nonneg v (show (2147483647 : Int) ≠ 0 by omega)
  have hm1 := Int.emod_lt_of_pos v (show (0 : Int) < 2147483647 by omega)
  have wm : (Lit.int .i64 2147483647).wf = true := by decide
  have wx : (Lit.int .i64 (a * 1000003 + v % 2147483647 + 19)).wf = true := Go.WalkArith.wf_i64 ⟨by omega, by omega⟩
  have e1 : NumDiv.md v 2147483647 = v % 2147483647 := NumDiv.md_in (by omega) (by omega)
  have e2 : NumDiv.md (a * 1000003 + v % 2147483647 + 19) 2147483647 = stp a v := NumDiv.md_in (by omega) (by omega)
  have c1 := NumDiv.impl_mod v 2147483647 w wv wm
  have c2 := NumDiv.impl_mod _ 2147483647 w wx wm
  rw [e1] at c1; rw [e2] at c2
  clear e1 e2 wx wv wm
  go_enter Try.func103, Try.ntmps103
  go_wp2_with (fail)
  go_at_call 68
  refine c1.mono ?_
  rintro e w' ⟨rfl, rfl⟩
  go_wp2_with (fail)
  go_at_call 68
  refine c2.mono ?_
  rintro e w' ⟨rfl, rfl⟩
  go_wp2
  go_ret
  exact ⟨rfl, rfl⟩

theorem impl_hash_nil (a : Option Addr) (cap : Nat) (w : World) :
    Calls Try.prog 91 #[.slice a 0 cap] w fun e w' => e = .returned (.int .i64 7) ∧ w = w' := by
  go_enter Try.func91, Try.ntmps91
  go_wp2
  go_loop [3, 8] (fun d i => d = .int .i64 7 ∧ i = .int .i64 0) (fun _ i => 0)
  case atStart => exact ⟨rfl, rfl⟩
  case round =>
    obtain ⟨rfl, rfl⟩ := hrel
    go_wp2
    go_ret
    exact ⟨rfl, rfl⟩

theorem impl_hash_some (b off cap : Nat) (zs : List Int) (w : World) (hc : Nums.At w b off zs) (hw : Nums.Wf zs) (hl : zs.length ≤ 1000000000000) :
    Calls Try.prog 91 #[.slice (some ⟨b, off, none⟩) zs.length cap] w fun e w' => e = .returned (.int .i64 (hash zs)) ∧ w = w' := by
  have HC := Lib.hid hc
  have HW := Lib.hid hw
  clear hc hw
  go_enter Try.func91, Try.ntmps91
  go_wp2
  go_loop [3, 8] (fun d i => ∃ k : Nat, k ≤ zs.length ∧ i = .int .i64 k ∧ d = .int .i64 (pre zs k)) (fun _ i => zs.length - (intOf i).toNat)
  case atStart => exact ⟨0, Nat.zero_le _, rfl, rfl⟩
  case round =>
    obtain ⟨k, hk, rfl, rfl⟩ := hrel
    by_cases hlt : k < zs.length
    · have hcell := HC.out k hlt
      have hwf := Nums.wf_getD HW.out hlt
      obtain ⟨p0, p1⟩ := pre_bd zs k
      have HP := Lib.hid (pre_more hlt)
      go_wp2_with (fail)
      go_at_call 103
      refine (fold_num _ _ _ p0 p1 (by simpa [List.getD, hlt] using hwf)).mono ?_
      rintro e w' ⟨rfl, rfl⟩
      go_wp2
      go_round
      case rel => exact ⟨k + 1, by omega, by go_num, by rw [HP.out]; simp [List.getD, hlt]⟩
      case measure => simp [intOf]; omega
    · have HP := Lib.hid (pre_all zs (show k = zs.length by omega))
      go_wp2
      go_ret
      exact ⟨ret_int HP.out, rfl⟩

/-- The program's Hash, over every slice of integers. -/
theorem impl_hash (v : Value) (zs : List Int) (w : World) (h : Nums.Holds w v zs) (hw : Nums.Wf zs) (hl : zs.length ≤ 1000000000000) :
    Calls Try.prog 91 #[v] w fun e w' => e = .returned (.int .i64 (hash zs)) ∧ w = w' := by
  rcases h with ⟨rfl, a, cap, rfl⟩ | ⟨h0, b, off, cap, rfl, hc⟩
  · exact impl_hash_nil a cap w
  · exact impl_hash_some b off cap zs w hc hw hl
end Go.Proofs.Ytebkhailknbnhaa.Dg
