/-
  CONTRACT of the program's Digits: at every two integers of 64 bits, where the library's table of powers of ten reads as it is written, it returns the digits that are asked for; nothing that was there before is changed.
-/
import Derived.Test.YtgclilgahalgaaaDoorDigMath
import Derived.Test.YtgclilgahalgaaaDoorFmtImpl
import Derived.Test.YtgclilgahalgaaaDoorFmtSpec
namespace Go.Proofs.YtgclilgahalgaaaDoor.Dig
open Go Go.RowKit
set_option linter.unusedVariables false

theorem ret_int {k : IntKind} {a b : Int} (h : a = b) : Ending.returned (.int k a) = .returned (.int k b) := by rw [h]
theorem impl_max0 (n : Int) (w : World) :
    Calls Tryd.prog 41 #[.int .i64 0, .int .i64 n] w fun e w' => e = .returned (.int .i64 (mx n)) ∧ w = w' := by
  go_enter Tryd.func41, Tryd.ntmps41
  go_wp2
  go_ret
  refine ⟨ret_int (b := mx n) (a := max 0 n) ?_, rfl⟩
  unfold mx; split <;> omega
theorem impl_min20 (n : Int) (w : World) :
    Calls Tryd.prog 42 #[.int .i64 n, .int .i64 20] w fun e w' => e = .returned (.int .i64 (mn n)) ∧ w = w' := by
  go_enter Tryd.func42, Tryd.ntmps42
  go_wp2
  go_ret
  refine ⟨ret_int (b := mn n) (a := min n 20) ?_, rfl⟩
  unfold mn; split <;> omega

set_option maxHeartbeats 400000 in
theorem impl_digits (n width : Int) (w : World) (h1 : n ≤ 9223372036854775807) (ht : Fmt.Tens w) :
    Calls Tryd.prog 34 #[.int .i64 n, .int .i64 width] w fun e w' => e = .returned (.string ⟨(digs n width).toArray⟩) ∧ Below w.heap.size w w' := by
  obtain ⟨b0, b1⟩ := mx_bd h1
  have hl := Fmt.itoa_len (n := mx n) (by omega) b1
  obtain ⟨hm1, hm2, hm3⟩ := mn_bd width
  have HL := Lib.hid hl.2
  have HM := Lib.hid hm3
  clear hl hm3
  go_enter Tryd.func34, Tryd.ntmps34
  go_wp2_with (first | (go_at_call 41; refine (impl_max0 n _).mono ?_; rintro e w' ⟨rfl, rfl⟩) | (go_at_call 42; refine (impl_min20 width _).mono ?_; rintro e w' ⟨rfl, rfl⟩) | (go_at_call 36; refine (Fmt.impl_fmt (mx n) (by omega) b1 _ ht).mono ?_; rintro e w1 ⟨rfl, hb1⟩))
  go_loop [5] (fun s => ∃ l : List UInt8, s = .string ⟨l.toArray⟩ ∧ l.length ≤ 20 ∧ zpad l (mn width).toNat = digs n width) (fun s => 20 - strLen s)
  case atStart => exact ⟨_, rfl, HL.out, rfl⟩
  case round =>
    obtain ⟨l, rfl, hll, hz⟩ := hrel
    have HZ := Lib.hid hz
    clear hz
    have hadd := Fmt.addone 48 l (by omega)
    by_cases ha : (l.length : Int) < mn width
    · have HS := Lib.hid ((zpad_step (l := l) (k := (mn width).toNat) (by omega)).trans HZ.out)
      go_wp2
      go_round
      case rel => exact ⟨48 :: l, rfl, by simp; omega, HS.out⟩
      case measure => simp [strLen, ByteArray.size]; omega
    · have HE := Lib.hid ((zpad_done (l := l) (k := (mn width).toNat) (by omega)).symm.trans HZ.out)
      go_wp2
      go_ret
      exact ⟨Fmt.ret_str HE.out, hb1⟩
end Go.Proofs.YtgclilgahalgaaaDoor.Dig
