/-
  CONTRACT of the model's Mod: at every two integers of 64 bits it returns the remainder rounded down, 0 for a divisor out of range; the world stays as it was.
-/
import Derived.Test.YtebkhailknbnhaaNumIn
namespace Go.Proofs.Ytebkhailknbnhaa.NumDiv
open Go Go.RowKit
set_option linter.unusedVariables false
set_option maxRecDepth 1000000

theorem spec_mod (n m : Int) (w : World) (wn : (Lit.int .i64 n).wf = true) (wm : (Lit.int .i64 m).wf = true) :
    Calls Try.prog 89 #[.int .i64 n, .int .i64 m] w fun e w' => e = .returned (.int .i64 (md n m)) ∧ w = w' := by
  by_cases h : m < 1 ∨ 1000000000000 < m
  · rw [md_out h]
    have H := Lib.hid h; clear h
    go_enter Try.func89, Try.ntmps89
    go_wp2_with (go_at_call 65; refine (in_no _ _ _ _ H.out).mono ?_; rintro e w' ⟨rfl, rfl⟩)
    go_ret
    exact ⟨rfl, rfl⟩
  · have h1 : 1 ≤ m := by omega
    have h2 : m ≤ 1000000000000 := by omega
    rw [md_in h1 h2]
    clear h
    obtain ⟨b1, b2⟩ := tmod_bd n m h1
    have h0 : 0 ≤ n.tmod m + m := by omega
    go_enter Try.func89, Try.ntmps89
    go_wp2_with (go_at_call 65; refine (in_yes _ _ _ _ h1 h2).mono ?_; rintro e w' ⟨rfl, rfl⟩)
    go_ret
    refine ⟨ret_int ?_, rfl⟩
    rcases tmod_split n m h1 with e | ⟨_, e⟩ <;> rw [e] <;> simp
end Go.Proofs.Ytebkhailknbnhaa.NumDiv
