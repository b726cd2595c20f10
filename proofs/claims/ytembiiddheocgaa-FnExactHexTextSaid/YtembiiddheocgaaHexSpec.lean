/-
  CONTRACT of the model's HexText: from 0 to the modulus it returns the eight hexadecimal digits, at every other integer the empty text; nothing that was there before is changed.
-/
import Derived.Test.YtembiiddheocgaaHexMath
import Derived.Test.YtembiiddheocgaaByteStr
import Derived.Test.YtembiiddheocgaaNumIn
namespace Go.Proofs.Ytembiiddheocgaa.Hex
open Go Go.RowKit
set_option linter.unusedVariables false

set_option maxHeartbeats 1000000 in
theorem spec_in (n : Nat) (w : World) (h : (n : Int) ≤ 2147483647) :
    Calls Try.prog 18 #[.int .i64 n] w fun e w' => e = .returned (.string ⟨(hx n 8).toArray⟩) ∧ Below w.heap.size w w' := by
  go_enter Try.func18, Try.ntmps18
  go_wp2_with (go_at_call 26; refine (NumDiv.in_yes _ _ _ _ (by omega) h).mono ?_; rintro e w' ⟨rfl, rfl⟩)
  go_loopw [3, 4] (fun s x wr => ∃ (k : Nat), x = .int .i64 k ∧ k ≤ 8 ∧ s = .string ⟨(hx n k).toArray⟩ ∧ Below w.heap.size w wr) (fun _ x _ => 8 - (intOf x).toNat)
  case atStart => exact ⟨0, rfl, by omega, rfl, Below.refl _ _⟩
  case round =>
    obtain ⟨k, rfl, hk, rfl, hb⟩ := hrel
    by_cases hz : k < 8
    · have hdig := dig_shr n k
      have hlt := dig_lt n k
      have HM := Lib.hid (hx_more n k)
      have hlen := hx_len n k
      generalize n / 16 ^ k % 16 = d at hdig hlt HM
      have hadd := Str.addone (hexd d) (hx n k) (by omega)
      clear hlen
      by_cases h10 : d < 10
      · have hcv := Str.byteback wr (48 + (d : Int)) (hexd d) (by rw [hexd_low h10]; omega)
        go_wp2
        go_roundw
        case rel => exact ⟨k + 1, by go_num, by omega, by rw [HM.out], hb.alloc hb.size _⟩
        case measure => simp [intOf]; omega
      · have hcv := Str.byteback wr (87 + (d : Int)) (hexd d) (by rw [hexd_high h10 hlt]; omega)
        have hs : 97 + (d : Int) - 10 = 87 + (d : Int) := by omega
        go_wp2
        go_roundw
        case rel => exact ⟨k + 1, by go_num, by omega, by rw [HM.out], hb.alloc hb.size _⟩
        case measure => simp [intOf]; omega
    · obtain rfl : k = 8 := by omega
      go_wp2
      go_ret
      exact ⟨rfl, hb⟩

theorem spec_out (n : Int) (w : World) (h : n < 0 ∨ 2147483647 < n) :
    Calls Try.prog 18 #[.int .i64 n] w fun e w' => e = .returned (.string ⟨#[]⟩) ∧ Below w.heap.size w w' := by
  have H := Lib.hid h
  clear h
  go_enter Try.func18, Try.ntmps18
  go_wp2_with (go_at_call 26; refine (NumDiv.in_no _ _ _ _ H.out).mono ?_; rintro e w' ⟨rfl, rfl⟩)
  go_ret
  exact ⟨rfl, Below.refl _ _⟩
end Go.Proofs.Ytembiiddheocgaa.Hex
