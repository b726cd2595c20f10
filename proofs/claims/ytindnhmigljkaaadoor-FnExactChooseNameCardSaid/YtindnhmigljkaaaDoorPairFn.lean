/-
  CONTRACTS of both sides' SplitPair: at every text each returns what stands on both sides of the first =, trimmed, and whether there is one; nothing that was there before is changed.
-/
import Derived.Test.YtindnhmigljkaaaDoorCutOne
import Derived.Test.YtindnhmigljkaaaDoorTrimFn
namespace Go.Proofs.YtindnhmigljkaaaDoor.Tx
open Go Go.RowKit
set_option linter.unusedVariables false
set_option maxRecDepth 1000000

def pairs (l : List UInt8) : List UInt8 × List UInt8 × Bool := (trim (cutAt 61 l).1, trim (cutAt 61 l).2.1, (cutAt 61 l).2.2)
def PairEnd (l : List UInt8) (w : World) (e : Ending) (w' : World) : Prop :=
  e = .returned (.tuple #[.string ⟨(pairs l).1.toArray⟩, .string ⟨(pairs l).2.1.toArray⟩, .bool (pairs l).2.2]) ∧ Below w.heap.size w w'
theorem pair_end {l x y : List UInt8} {b : Bool} {w w' : World} (h : pairs l = (x, y, b)) (hb : Below w.heap.size w w') : PairEnd l w (.returned (.tuple #[.string ⟨x.toArray⟩, .string ⟨y.toArray⟩, .bool b])) w' := by
  unfold PairEnd; rw [h]; exact ⟨rfl, hb⟩
theorem cutAt_len (c : UInt8) (l : List UInt8) : (cutAt c l).1.length ≤ l.length ∧ (cutAt c l).2.1.length ≤ l.length := by
  unfold cutAt; split <;> simp <;> omega
theorem impl_trim_list (l : List UInt8) (w : World) (hs : l.length ≤ 9223372036854775806) :
    Calls Tryd.prog 38 #[.string ⟨l.toArray⟩] w fun e w' => e = .returned (.string ⟨(trim l).toArray⟩) ∧ Below w.heap.size w w' := impl_trim ⟨l.toArray⟩ w (Nat.le_trans hs (by decide))

set_option maxHeartbeats 1000000 in
theorem impl_pair (s : ByteArray) (w : World) (hs : s.size ≤ 9223372036854775806) :
    Calls Tryd.prog 46 #[.string s] w (PairEnd s.data.toList w) := by
  have hl : s.data.toList.length = s.size := by rw [Array.length_toList]; rfl
  have HL := Lib.hid (cutAt_len 61 s.data.toList)
  have c1 := cut_any s 61 w hs
  unfold CutEnd at c1
  have HP : Hid (pairs s.data.toList = (trim (cutAt 61 s.data.toList).1, trim (cutAt 61 s.data.toList).2.1, (cutAt 61 s.data.toList).2.2)) := Lib.hid rfl
  generalize (cutAt 61 s.data.toList).1 = x, (cutAt 61 s.data.toList).2.1 = y, (cutAt 61 s.data.toList).2.2 = b at *
  go_enter Tryd.func46, Tryd.ntmps46
  go_wp2_with (fail)
  go_at_call 60
  refine c1.mono ?_
  rintro e w1 ⟨rfl, hb1⟩
  go_wp2_with (fail)
  go_at_call 38
  refine (impl_trim_list x _ (by have := HL.out; omega)).mono ?_
  rintro e w2 ⟨rfl, hb2⟩
  go_wp2_with (fail)
  go_at_call 38
  refine (impl_trim_list y _ (by have := HL.out; omega)).mono ?_
  rintro e w3 ⟨rfl, hb3⟩
  go_wp2
  go_ret3
  exact pair_end HP.out (Base.then_below (Base.then_below hb1 hb2) hb3)

theorem spec_trim' (s : ByteArray) (w : World) (hs : s.size ≤ 9223372036854775806) :
    Calls Tryd.prog 18 #[.string s] w fun e w' => e = .returned (.string ⟨(trim s.data.toList).toArray⟩) ∧ w' = w :=
  (spec_trim s w hs).mono fun _ _ ⟨h1, h2⟩ => ⟨h1, h2.symm⟩
theorem pair_hit {s : ByteArray} {w w' : World} {k : Nat} (hk : k < s.size) (h1 : ∀ j (hj : j < s.data.toList.length), j < k → s.data.toList[j] ≠ 61) (h2 : ∀ h : k < s.data.toList.length, s.data.toList[k] = 61) (hb : Below w.heap.size w w') :
    PairEnd s.data.toList w (.returned (.tuple #[.string ⟨(trim (s.extract 0 k).data.toList).toArray⟩, .string ⟨(trim (s.extract (k + 1) s.size).data.toList).toArray⟩, .bool true])) w' := by
  have hl : s.data.toList.length = s.size := by rw [Array.length_toList]; rfl
  have hi : k = idx 61 s.data.toList := (idx_eq (by omega) h1 h2).symm
  have e : cutAt 61 s.data.toList = (s.data.toList.take k, s.data.toList.drop (k + 1), true) := by
    unfold cutAt; rw [← hi, hl, if_pos hk]
  unfold PairEnd pairs
  rw [e, ext_eq, ext_eq]
  refine ⟨?_, hb⟩
  have h2 : (s.data.toList.drop (k + 1)).take (s.size - (k + 1)) = s.data.toList.drop (k + 1) := List.take_of_length_le (by rw [List.length_drop, hl]; omega)
  rw [h2, List.drop_zero, Nat.sub_zero]
theorem pair_miss {s : ByteArray} {w w' : World} (h1 : ∀ j (hj : j < s.data.toList.length), j < s.size → s.data.toList[j] ≠ 61) (hb : Below w.heap.size w w') :
    PairEnd s.data.toList w (.returned (.tuple #[.string ⟨(trim s.data.toList).toArray⟩, .string ⟨#[]⟩, .bool false])) w' := by
  have hl : s.data.toList.length = s.size := by rw [Array.length_toList]; rfl
  have hi : idx 61 s.data.toList = s.size := idx_eq (by omega) h1 (fun h => absurd h (by omega))
  have e : cutAt 61 s.data.toList = (s.data.toList, [], false) := by
    unfold cutAt; rw [hi, hl, if_neg (by omega)]
  unfold PairEnd pairs
  rw [e]
  exact ⟨rfl, hb⟩

set_option maxHeartbeats 1000000 in
theorem spec_pair (s : ByteArray) (w : World) (hs : s.size ≤ 9223372036854775806) :
    Calls Tryd.prog 19 #[.string s] w (PairEnd s.data.toList w) := by
  go_enter Tryd.func19, Tryd.ntmps19
  go_wp2
  go_loop [5] (fun i => ∃ k : Nat, k ≤ s.size ∧ i = .int .i64 k ∧ ∀ j (hj : j < s.data.toList.length), j < k → s.data.toList[j] ≠ 61) (fun i => s.size - (intOf i).toNat)
  case atStart => exact ⟨0, Nat.zero_le _, rfl, fun j hj h => absurd h (by omega)⟩
  case round =>
    obtain ⟨k, hk, rfl, hno⟩ := hrel
    have HN := Lib.hid hno
    clear hno
    by_cases hlt : k < s.size
    · rcases hc : ((s[k].toNat : Int) == 61) with _ | _
      · have HC : Hid (s[k] ≠ 61) := Lib.hid (by intro h; rw [h] at hc; revert hc; decide)
        go_wp2
        go_round
        case rel => exact ⟨k + 1, by omega, by go_num, fun j hj h => by
          rcases Nat.lt_or_ge j k with h' | h'
          · exact HN.out j hj h'
          · have : j = k := by omega
            subst this; exact HC.out⟩
        case measure => simp [intOf]; omega
      · have HC : Hid (s[k] = 61) := Lib.hid (UInt8.toNat_inj.1 (by have := beq_iff_eq.1 hc; simp; omega))
        go_wp2
        go_quiet ((go_at_call 18; exact Calls.quiet_of_same (spec_trim' _ _ (by simp; omega))))
        go_wp2
        go_ret3
        exact pair_hit hlt HN.out (fun _ => HC.out) (below_drewN' (Below.refl _ _) _)
    · obtain rfl : k = s.size := by omega
      go_wp2_with (go_at_call 18; refine (spec_trim s _ hs).mono ?_; rintro e w' ⟨rfl, rfl⟩)
      go_ret3
      exact pair_miss HN.out (Below.refl _ _)
end Go.Proofs.YtindnhmigljkaaaDoor.Tx
