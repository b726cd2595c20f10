/-
  CONTRACT of the program's FloorDiv: at every two integers of 64 bits it returns the quotient rounded down, 0 for a divisor out of range; the world stays as it was.
-/
import Derived.Test.YtnlacigaedkijaaDoorNumIsd
namespace Go.Proofs.YtnlacigaedkijaaDoor.NumDiv
open Go Go.RowKit
set_option linter.unusedVariables false

theorem impl_fd (n m : Int) (w : World) (wn : (Lit.int .i64 n).wf = true) (wm : (Lit.int .i64 m).wf = true) :
    Calls Tryd.prog 12 #[.int .i64 n, .int .i64 m] w fun e w' => e = .returned (.int .i64 (fd n m)) ∧ w = w' := by
  by_cases h : m < 1 ∨ 1000000000000 < m
  · rw [fd_out h]
    have H := Lib.hid h; clear h
    go_enter Tryd.func12, Tryd.ntmps12
    go_wp2_with (go_at_call 26; refine (isd_no _ _ H.out).mono ?_; rintro e w' ⟨rfl, rfl⟩)
    go_ret
    exact ⟨rfl, rfl⟩
  · have h1 : 1 ≤ m := by omega
    have h2 : m ≤ 1000000000000 := by omega
    rw [fd_in h1 h2]
    clear h
    have hn := Go.bounds_i64 wn
    have hq := q_bd n m h1 hn.1 hn.2
    obtain ⟨q1, q2⟩ := hq
    by_cases hr : n.tmod m < 0
    · have q3 : -9223372036854775808 ≤ n.tdiv m - 1 := by rw [tdiv_neg h1 hr]; exact (q_bd' n m h1 hn.1 hn.2).1
      clear hn wn wm
      rw [← tdiv_neg h1 hr]
      go_enter Tryd.func12, Tryd.ntmps12
      go_wp2_with (go_at_call 26; refine (isd_yes _ _ h1 h2).mono ?_; rintro e w' ⟨rfl, rfl⟩)
      go_ret
      exact ⟨rfl, rfl⟩
    · clear hn wn wm
      rw [← tdiv_pos h1 (by omega)]
      go_enter Tryd.func12, Tryd.ntmps12
      go_wp2_with (go_at_call 26; refine (isd_yes _ _ h1 h2).mono ?_; rintro e w' ⟨rfl, rfl⟩)
      go_ret
      exact ⟨rfl, rfl⟩
end Go.Proofs.YtnlacigaedkijaaDoor.NumDiv
