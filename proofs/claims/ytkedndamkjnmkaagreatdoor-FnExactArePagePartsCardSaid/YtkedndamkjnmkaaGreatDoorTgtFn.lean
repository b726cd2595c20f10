/-
  CONTRACTS of both sides' SplitTarget: at every text each returns what stands before and behind the first question mark, and whether there is one; nothing that was there before is changed.
-/
import Derived.Test.YtkedndamkjnmkaaGreatDoorCutOne
namespace Go.Proofs.YtkedndamkjnmkaaGreatDoor.Tx
open Go Go.RowKit
set_option linter.unusedVariables false
set_option maxRecDepth 1000000

theorem impl_tgt_s (s : ByteArray) (w : World) (hs : s.size ≤ 9223372036854775806) :
    Calls Tryz.prog 42 #[.string s] w (CutEnd 63 s.data.toList w) := by
  have c1 := cut_any s 63 w hs
  go_enter Tryz.func42, Tryz.ntmps42
  go_wp2_with (go_at_call 65; refine c1.mono ?_; rintro e w' ⟨rfl, hb⟩)
  go_ret3
  exact ⟨rfl, hb⟩

theorem tgt_miss {s : ByteArray} {w w' : World} (h1 : ∀ j (hj : j < s.data.toList.length), j < s.size → s.data.toList[j] ≠ 63) (hb : Below w.heap.size w w') :
    CutEnd 63 s.data.toList w (.returned (.tuple #[.string s, .string ⟨#[]⟩, .bool false])) w' := by
  have hl : s.data.toList.length = s.size := by rw [Array.length_toList]; rfl
  have hi : idx 63 s.data.toList = s.size := idx_eq (by omega) h1 (fun h => absurd h (by omega))
  exact cut_miss (by omega) hb
theorem tgt_hit {s : ByteArray} {w w' : World} {k : Nat} (hk : k < s.size) (h1 : ∀ j (hj : j < s.data.toList.length), j < k → s.data.toList[j] ≠ 63) (h2 : ∀ h : k < s.data.toList.length, s.data.toList[k] = 63) (hb : Below w.heap.size w w') :
    CutEnd 63 s.data.toList w (.returned (.tuple #[.string (s.extract 0 k), .string (s.extract (k + 1) s.size), .bool true])) w' := by
  have hl : s.data.toList.length = s.size := by rw [Array.length_toList]; rfl
  exact cut_hit (idx_eq (by omega) h1 h2).symm hk hb

set_option maxHeartbeats 1000000 in
theorem spec_tgt_s (s : ByteArray) (w : World) (hs : s.size ≤ 9223372036854775806) :
    Calls Tryz.prog 38 #[.string s] w (CutEnd 63 s.data.toList w) := by
  go_enter Tryz.func38, Tryz.ntmps38
  go_wp2
  go_loop [5] (fun i => ∃ k : Nat, k ≤ s.size ∧ i = .int .i64 k ∧ ∀ j (hj : j < s.data.toList.length), j < k → s.data.toList[j] ≠ 63) (fun i => s.size - (intOf i).toNat)
  case atStart => exact ⟨0, Nat.zero_le _, rfl, fun j hj h => absurd h (by omega)⟩
  case round =>
    obtain ⟨k, hk, rfl, hno⟩ := hrel
    have HN := Lib.hid hno
    clear hno
    by_cases hlt : k < s.size
    · rcases hc : ((s[k].toNat : Int) == 63) with _ | _
      · have HC : Hid (s[k] ≠ 63) := Lib.hid (by intro h; rw [h] at hc; revert hc; decide)
        go_wp2
        go_round
        case rel => exact ⟨k + 1, by omega, by go_num, fun j hj h => by
          rcases Nat.lt_or_ge j k with h' | h'
          · exact HN.out j hj h'
          · have : j = k := by omega
            subst this; exact HC.out⟩
        case measure => simp [intOf]; omega
      · have HC : Hid (s[k] = 63) := Lib.hid (UInt8.toNat_inj.1 (by have := beq_iff_eq.1 hc; simp; omega))
        go_wp2
        go_quiet (fail)
        go_wp2
        go_ret3
        exact tgt_hit hlt HN.out (fun _ => HC.out) (below_drewN' (Below.refl _ _) _)
    · obtain rfl : k = s.size := by omega
      go_wp2
      go_ret3
      exact tgt_miss HN.out (Below.refl _ _)
theorem impl_tgt (l : List UInt8) (w : World) (hs : l.length ≤ 9223372036854775806) : Calls Tryz.prog 42 #[.string ⟨l.toArray⟩] w (CutEnd 63 l w) := impl_tgt_s ⟨l.toArray⟩ w (by simpa [ByteArray.size] using hs)
theorem spec_tgt (l : List UInt8) (w : World) (hs : l.length ≤ 9223372036854775806) : Calls Tryz.prog 38 #[.string ⟨l.toArray⟩] w (CutEnd 63 l w) := spec_tgt_s ⟨l.toArray⟩ w (by simpa [ByteArray.size] using hs)
end Go.Proofs.YtkedndamkjnmkaaGreatDoor.Tx
