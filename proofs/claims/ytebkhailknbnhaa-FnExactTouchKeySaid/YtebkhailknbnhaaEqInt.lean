/-
  CONTRACT of the laws' comparison of two slices of integers (eqIntS): where both hold the same integers it returns true; nothing that was there before is changed.
-/
import Derived.Test.YtebkhailknbnhaaNums
import Derived.LoopTactic
import Derived.RegionTactic
namespace Go.Proofs.Ytebkhailknbnhaa.Nums
open Go Go.RowKit
set_option linter.unusedVariables false
set_option maxRecDepth 1000000

def Yes (w : World) (e : Ending) (w' : World) : Prop := e = .returned (.bool true) ∧ Below w.heap.size w w'
theorem below_drew {B : Nat} {a w : World} (h : Below B a w) : Below B a w.drew := ⟨h.os, h.tape, h.output, h.size, h.block⟩

theorem eq_nil (a a' : Option Addr) (cap cap' : Nat) (w : World) :
    Calls Try.prog 41 #[.slice a 0 cap, .slice a' 0 cap'] w (Yes w) := by
  go_enter Try.func41, Try.ntmps41
  go_wp2
  go_loop [5] (fun i => i = .int .i64 0) (fun i => 0)
  case atStart => rfl
  case round =>
    obtain rfl := hrel
    go_wp2
    go_ret
    exact ⟨rfl, Below.refl _ _⟩

theorem eq_some (b off cap b' off' cap' : Nat) (zs : List Int) (w : World) (hc : At w b off zs) (hc' : At w b' off' zs) (h0 : 0 < zs.length) (hl : zs.length ≤ 1000000000000) :
    Calls Try.prog 41 #[.slice (some ⟨b, off, none⟩) zs.length cap, .slice (some ⟨b', off', none⟩) zs.length cap'] w (Yes w) := by
  have hbl := at_lt hc h0
  have hbl' := at_lt hc' h0
  have HC := Lib.hid hc
  have HC' := Lib.hid hc'
  clear hc hc'
  go_enter Try.func41, Try.ntmps41
  go_wp2
  go_loopw [5] (fun i wr => ∃ k : Nat, k ≤ zs.length ∧ i = .int .i64 k ∧ Below w.heap.size w wr) (fun i _ => zs.length - (intOf i).toNat)
  case atStart => exact ⟨0, Nat.zero_le _, rfl, Below.refl _ _⟩
  case round =>
    obtain ⟨k, hk, rfl, hb⟩ := hrel
    by_cases hlt : k < zs.length
    · have c1 : wr.cell? ⟨b, off + k, none⟩ = some (.int .i64 (zs.getD k 0)) := at_below HC.out hb hbl k hlt
      have c2 : wr.cell? ⟨b', off' + k, none⟩ = some (.int .i64 (zs.getD k 0)) := at_below HC'.out hb hbl' k hlt
      obtain ⟨z, hz⟩ : ∃ z, z = zs.getD k 0 := ⟨_, rfl⟩
      rw [← hz] at c1 c2
      clear hz
      have hb' := below_drew hb
      go_wp2
      all_goals go_region
      all_goals go_wp2
      all_goals go_roundw
      case rel => exact ⟨k + 1, by omega, by go_num, hb'⟩
      case measure => simp [intOf]; omega
    · go_wp2
      go_ret
      exact ⟨rfl, hb⟩

theorem eq_same (v v' : Value) (zs : List Int) (w : World) (h : Holds w v zs) (h' : Holds w v' zs) (hl : zs.length ≤ 1000000000000) :
    Calls Try.prog 41 #[v, v'] w (Yes w) := by
  rcases h with ⟨rfl, a, cap, rfl⟩ | ⟨h0, b, off, cap, rfl, hc⟩
  · rcases h' with ⟨_, a', cap', rfl⟩ | ⟨h0, _⟩
    · exact eq_nil a a' cap cap' w
    · exact absurd h0 (by simp)
  · rcases h' with ⟨rfl, _⟩ | ⟨_, b', off', cap', rfl, hc'⟩
    · exact absurd h0 (by simp)
    · exact eq_some b off cap b' off' cap' zs w hc hc' h0 hl
end Go.Proofs.Ytebkhailknbnhaa.Nums
