/-
  CONTRACT of the laws' comparison of two slices of texts (eqStringS): where both hold the same texts it returns true; nothing that was there before is changed.
-/
import Derived.Test.YtbkjioggohjnfaaDoorStrs
import Derived.LoopTactic
import Derived.RegionTactic
namespace Go.Proofs.YtbkjioggohjnfaaDoor.Strs
open Go Go.RowKit
set_option linter.unusedVariables false
set_option maxRecDepth 1000000

def Yes (w : World) (e : Ending) (w' : World) : Prop := e = .returned (.bool true) ∧ Below w.heap.size w w'
theorem below_drew {B : Nat} {a w : World} (h : Below B a w) : Below B a w.drew := ⟨h.os, h.tape, h.output, h.size, h.block⟩

theorem eq_nil (a a' : Option Addr) (cap cap' : Nat) (w : World) :
    Calls Tryd.prog 8 #[.slice a 0 cap, .slice a' 0 cap'] w (Yes w) := by
  go_enter Tryd.func8, Tryd.ntmps8
  go_wp2
  go_loop [5] (fun i => i = .int .i64 0) (fun i => 0)
  case atStart => rfl
  case round =>
    obtain rfl := hrel
    go_wp2
    go_ret
    exact ⟨rfl, Below.refl _ _⟩

theorem eq_some (b off cap b' off' cap' : Nat) (xs : List (List UInt8)) (w : World) (hc : At w b off xs) (hc' : At w b' off' xs) (h0 : 0 < xs.length) (hl : xs.length ≤ 1000000000000) :
    Calls Tryd.prog 8 #[.slice (some ⟨b, off, none⟩) xs.length cap, .slice (some ⟨b', off', none⟩) xs.length cap'] w (Yes w) := by
  have hbl := at_lt hc h0
  have hbl' := at_lt hc' h0
  have HC := Lib.hid hc
  have HC' := Lib.hid hc'
  clear hc hc'
  go_enter Tryd.func8, Tryd.ntmps8
  go_wp2
  go_loopw [5] (fun i wr => ∃ k : Nat, k ≤ xs.length ∧ i = .int .i64 k ∧ Below w.heap.size w wr) (fun i _ => xs.length - (intOf i).toNat)
  case atStart => exact ⟨0, Nat.zero_le _, rfl, Below.refl _ _⟩
  case round =>
    obtain ⟨k, hk, rfl, hb⟩ := hrel
    by_cases hlt : k < xs.length
    · have c1 : wr.cell? ⟨b, off + k, none⟩ = some (sv (xs.getD k [])) := at_below HC.out hb hbl k hlt
      have c2 : wr.cell? ⟨b', off' + k, none⟩ = some (sv (xs.getD k [])) := at_below HC'.out hb hbl' k hlt
      unfold sv at c1 c2
      obtain ⟨z, hz⟩ : ∃ z : ByteArray, z = ⟨(xs.getD k []).toArray⟩ := ⟨_, rfl⟩
      rw [← hz] at c1 c2
      clear hz
      have hb' := Lib.hid (below_drew hb)
      clear hb
      go_wp2
      all_goals go_region
      all_goals go_wp2
      all_goals go_roundw
      case rel => exact ⟨k + 1, by omega, by go_num, hb'.out⟩
      case measure => simp [intOf]; omega
    · go_wp2
      go_ret
      exact ⟨rfl, hb⟩

theorem eq_same (v v' : Value) (B B' : Nat) (xs : List (List UInt8)) (w : World) (h : Holds w B v xs) (h' : Holds w B' v' xs) (hl : xs.length ≤ 1000000000000) :
    Calls Tryd.prog 8 #[v, v'] w (Yes w) := by
  rcases h with ⟨rfl, a, cap, rfl⟩ | ⟨h0, b, off, cap, rfl, _, _, hc⟩
  · rcases h' with ⟨_, a', cap', rfl⟩ | ⟨h0, _⟩
    · exact eq_nil a a' cap cap' w
    · exact absurd h0 (by simp)
  · rcases h' with ⟨rfl, _⟩ | ⟨_, b', off', cap', rfl, _, _, hc'⟩
    · exact absurd h0 (by simp)
    · exact eq_some b off cap b' off' cap' xs w hc hc' h0 hl
end Go.Proofs.YtbkjioggohjnfaaDoor.Strs
