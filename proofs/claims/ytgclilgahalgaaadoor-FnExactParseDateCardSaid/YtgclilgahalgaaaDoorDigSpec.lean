/-
  CONTRACT of the model's Digits: at every two integers of 64 bits it returns the digits that are asked for; nothing that was there before is changed.
-/
import Derived.Test.YtgclilgahalgaaaDoorDigMath
import Derived.Test.YtgclilgahalgaaaDoorFmtSpec
import Derived.Test.YtgclilgahalgaaaDoorBase
namespace Go.Proofs.YtgclilgahalgaaaDoor.Dig
open Go Go.RowKit
set_option linter.unusedVariables false

theorem spec_max0 (n : Int) (w : World) :
    Calls Tryd.prog 30 #[.int .i64 0, .int .i64 n] w fun e w' => e = .returned (.int .i64 (mx n)) ∧ w = w' := by
  by_cases h : 0 < n
  · have e : mx n = n := by unfold mx; rw [if_neg (by omega)]
    rw [e]; clear e
    go_enter Tryd.func30, Tryd.ntmps30
    go_wp2
    go_ret
    exact ⟨rfl, rfl⟩
  · have e : mx n = 0 := by unfold mx; split <;> omega
    rw [e]; clear e
    go_enter Tryd.func30, Tryd.ntmps30
    go_wp2
    go_ret
    exact ⟨rfl, rfl⟩

set_option maxHeartbeats 400000 in
theorem spec_digits (n width : Int) (w : World) (h1 : n ≤ 9223372036854775807) :
    Calls Tryd.prog 20 #[.int .i64 n, .int .i64 width] w fun e w' => e = .returned (.string ⟨(digs n width).toArray⟩) ∧ Below w.heap.size w w' := by
  obtain ⟨b0, b1⟩ := mx_bd h1
  have hl := Fmt.itoa_len (n := mx n) (by omega) b1
  obtain ⟨hm1, hm2, hm3⟩ := mn_bd width
  have HL := Lib.hid hl.2
  have HM := Lib.hid hm3
  clear hl hm3
  go_enter Tryd.func20, Tryd.ntmps20
  go_wp2_with (first | (go_at_call 30; refine (spec_max0 n _).mono ?_; rintro e w' ⟨rfl, rfl⟩) | (go_at_call 22; refine (Fmt.spec_fmt (mx n) (by omega) b1 _).mono ?_; rintro e w1 ⟨rfl, hb1⟩))
  go_loop [5] (fun s => ∃ l : List UInt8, s = .string ⟨l.toArray⟩ ∧ l.length ≤ 20 ∧ zpad l (mn width).toNat = digs n width) (fun s => 20 - strLen s)
  case atStart => exact ⟨_, rfl, HL.out, rfl⟩
  case round =>
    obtain ⟨l, rfl, hll, hz⟩ := hrel
    have HZ := Lib.hid hz
    clear hz
    have hadd := Fmt.addone 48 l (by omega)
    by_cases ha : (l.length : Int) < width
    · by_cases hb : (l.length : Int) < 20
      · have HS := Lib.hid ((zpad_step (l := l) (k := (mn width).toNat) (by have := HM.out; omega)).trans HZ.out)
        go_wp2
        go_round
        case rel => exact ⟨48 :: l, rfl, by simp; omega, HS.out⟩
        case measure => simp [strLen, ByteArray.size]; omega
      · have HE := Lib.hid ((zpad_done (l := l) (k := (mn width).toNat) (by have := HM.out; omega)).symm.trans HZ.out)
        go_wp2
        go_ret
        exact ⟨Fmt.ret_str HE.out, hb1⟩
    · have HE := Lib.hid ((zpad_done (l := l) (k := (mn width).toNat) (by have := HM.out; omega)).symm.trans HZ.out)
      go_wp2
      go_ret
      exact ⟨Fmt.ret_str HE.out, hb1⟩
end Go.Proofs.YtgclilgahalgaaaDoor.Dig
