/-
  PLAIN FACTS for the law of chapter 1: what is read back from a numeral; quotient times divisor and remainder is the dividend, also where the product wraps around.
-/
import Derived.Test.YtnlacigaedkijaaDoorParMath
import Derived.Test.YtnlacigaedkijaaDoorNumMath
import Derived.Test.YtnlacigaedkijaaDoorCurInt
import Derived.Test.YtnlacigaedkijaaDoorDigImpl
namespace Go.Proofs.YtnlacigaedkijaaDoor.NumLaw
open Go Go.RowKit
set_option linter.unusedVariables false

theorem read_back {n m : Int} {ok : Bool} (h : Par.PS (Lib.itoa n) m ok) :
    (0 ≤ n ∧ n ≤ 1000000000000 ∧ m = n ∧ ok = true) ∨ ((n < 0 ∨ 1000000000000 < n) ∧ m = 0 ∧ ok = false) := by
  by_cases hin : 0 ≤ n ∧ n ≤ 1000000000000
  · obtain ⟨rfl, rfl⟩ := h.uniq (Or.inl ⟨rfl, hin.1, hin.2, rfl⟩)
    exact Or.inl ⟨hin.1, hin.2, rfl, rfl⟩
  · right
    refine ⟨by omega, ?_⟩
    have hno : ∀ u : Int, 0 ≤ u → u ≤ 1000000000000 → Lib.itoa u ≠ Lib.itoa n := by
      intro u h0 h1 e
      by_cases hn : n < 0
      · rw [Fmt.itoa_neg hn, Par.itoa_nat h0] at e
        have := Par.dec_dig u.toNat 45 (by rw [e]; exact List.mem_cons_self ..)
        have k : (45 : UInt8).toNat = 45 := by decide
        omega
      · have := Par.itoa_inj h0 (by omega) e
        omega
    exact h.uniq (Or.inr ⟨rfl, rfl, hno⟩)

theorem dividend {a b : Int} (ha : Cur.Fits a) (h1 : 1 ≤ b) (h2 : b ≤ 1000000000000) : wrap64 (wrap64 (NumDiv.fd a b * b) + NumDiv.md a b) = a := by
  rw [NumDiv.fd_in h1 h2, NumDiv.md_in h1 h2]
  have e := Int.mul_ediv_add_emod a b
  rw [Int.mul_comm] at e
  have := ha.1; have := ha.2
  have := Int.emod_nonneg a (show b ≠ 0 by omega)
  have := Int.emod_lt_of_pos a (show 0 < b by omega)
  generalize a / b * b = x at *
  generalize a % b = y at *
  unfold wrap64
  omega
theorem md_bd {a b : Int} (h1 : 1 ≤ b) (h2 : b ≤ 1000000000000) : 0 ≤ NumDiv.md a b ∧ NumDiv.md a b < b := by
  rw [NumDiv.md_in h1 h2]
  exact ⟨Int.emod_nonneg a (by omega), Int.emod_lt_of_pos a (by omega)⟩
theorem max_pos (r : Int) (w : World) (h : 0 ≤ r) :
    Calls Tryd.prog 17 #[.int .i64 r, .int .i64 0] w fun e w' => e = .returned (.int .i64 r) ∧ w = w' := by
  go_enter Tryd.func17, Tryd.ntmps17
  go_wp2
  go_ret
  refine ⟨Dig.ret_int (b := r) (a := max r 0) ?_, rfl⟩
  omega
end Go.Proofs.YtnlacigaedkijaaDoor.NumLaw
