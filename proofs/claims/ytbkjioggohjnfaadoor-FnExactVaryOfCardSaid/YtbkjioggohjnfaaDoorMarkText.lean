/-
  CONTRACT of the laws' markText: at every positive integer that is not too great it returns a text that depends on the integer alone; nothing that was there before is changed.
-/
import Derived.Test.YtbkjioggohjnfaaDoorByteStr
import Derived.LoopTactic
namespace Go.Proofs.YtbkjioggohjnfaaDoor.Mark
open Go Go.RowKit
set_option linter.unusedVariables false
set_option maxRecDepth 1000000

def dgs (n : Nat) (acc : List UInt8) : List UInt8 := if n = 0 then acc else dgs (n / 10) (UInt8.ofNat (48 + n % 10) :: acc)
  termination_by n
  decreasing_by omega
theorem dgs_zero (acc : List UInt8) : dgs 0 acc = acc := by rw [dgs, if_pos rfl]
theorem dgs_pos {n : Nat} (acc : List UInt8) (h : 0 < n) : dgs n acc = dgs (n / 10) (UInt8.ofNat (48 + n % 10) :: acc) := by
  conv => lhs; rw [dgs, if_neg (by omega)]
def mt (n : Nat) : List UInt8 := 109 :: dgs n []
theorem dig_nat (n : Nat) : ((UInt8.ofNat (48 + n % 10)).toNat : Int) = 48 + ((n : Int) % 10) := by
  have : (UInt8.ofNat (48 + n % 10)).toNat = (48 + n % 10) % 256 := UInt8.toNat_ofNat'
  rw [this]; omega
theorem ret_mt {l : List UInt8} {n : Nat} (h : l = dgs n []) : Ending.returned (.string ⟨(109 :: l).toArray⟩) = .returned (.string ⟨(mt n).toArray⟩) := by rw [h]; rfl

set_option maxHeartbeats 1000000 in
theorem mark_text (n : Nat) (w : World) (h1 : 1 ≤ n) (h2 : n ≤ 100000000) :
    Calls Tryd.prog 23 #[.int .i64 (n : Int)] w fun e w' => e = .returned (.string ⟨(mt n).toArray⟩) ∧ Below w.heap.size w w' := by
  have hpos : ¬ (n : Int) ≤ 0 := by omega
  go_enter Tryd.func23, Tryd.ntmps23
  go_wp2
  go_loopw [0, 3] (fun x s wr => ∃ (m : Nat) (l : List UInt8), x = .int .i64 (m : Int) ∧ s = .string ⟨l.toArray⟩ ∧ l.length + m ≤ n ∧ dgs m l = dgs n [] ∧ Below w.heap.size w wr) (fun x _ _ => (intOf x).toNat)
  case atStart => exact ⟨n, [], rfl, rfl, by simp, rfl, Below.refl _ _⟩
  case round =>
    obtain ⟨m, l, rfl, rfl, hlm, hd, hb⟩ := hrel
    have HD := Lib.hid hd
    have HB := Lib.hid hb
    clear hd hb
    by_cases hz : 0 < m
    · have hzi : 0 < (m : Int) := by omega
      have HE := Lib.hid ((dgs_pos l hz).symm.trans HD.out)
      have hcv := Str.byteback wr (48 + (m : Int) % 10) (UInt8.ofNat (48 + m % 10)) (dig_nat m)
      have hadd := Str.addone (UInt8.ofNat (48 + m % 10)) l (by omega)
      have HS := Lib.hid (show (m : Int) / 10 = ((m / 10 : Nat) : Int) by omega)
      have hl2 : 0 ≤ (m : Int) % 10 := by omega
      have hl3 : (m : Int) % 10 ≤ 9 := by omega
      have hm2 : (m : Int) ≤ 100000000 := by omega
      generalize UInt8.ofNat (48 + m % 10) = c at *
      go_wp2
      go_roundw
      case rel => exact ⟨m / 10, c :: l, by rw [← HS.out], rfl, by simp; omega, HE.out, HB.out.alloc HB.out.size _⟩
      case measure => simp [intOf]; omega
    · obtain rfl : m = 0 := by omega
      have HE := Lib.hid ((dgs_zero l).symm.trans HD.out)
      have hadd := Str.addone 109 l (by omega)
      go_wp2
      go_ret
      exact ⟨ret_mt HE.out, HB.out⟩
/-- The same at an integer. -/
def mtI (q : Int) : List UInt8 := mt q.toNat
theorem mark_int (q : Int) (w : World) (h1 : 1 ≤ q) (h2 : q ≤ 100000000) :
    Calls Tryd.prog 23 #[.int .i64 q] w fun e w' => e = .returned (.string ⟨(mtI q).toArray⟩) ∧ Below w.heap.size w w' := by
  obtain ⟨n, rfl⟩ : ∃ n : Nat, q = n := ⟨q.toNat, by omega⟩
  exact mark_text n w (by omega) (by omega)
end Go.Proofs.YtbkjioggohjnfaaDoor.Mark
