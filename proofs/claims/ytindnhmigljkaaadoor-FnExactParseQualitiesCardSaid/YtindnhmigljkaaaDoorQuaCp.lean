/-
  CONTRACTS of the laws' helpers for slices of Quality (written by rec.py): a copy (toQuality, toQualityS) and the comparison of two that hold the same (eqQuality, eqQualityS). Nothing that was there before is changed.
-/
import Derived.Test.YtindnhmigljkaaaDoorQua
import Derived.LoopTactic
import Derived.Outline
import Derived.RegionTactic
import Derived.Deep.RegionWith
namespace Go.Proofs.YtindnhmigljkaaaDoor.Qua
open Go Go.RowKit
set_option linter.unusedVariables false
set_option maxRecDepth 1000000

def Copied (l : List T) (w : World) (e : Ending) (w' : World) : Prop := ∃ v, e = .returned v ∧ Own w' w.heap.size v l ∧ Below w.heap.size w w'
/-- .. and the slice is not nil. -/
def Copied' (l : List T) (w : World) (e : Ending) (w' : World) : Prop := ∃ v, e = .returned v ∧ Own w' w.heap.size v l ∧ Below w.heap.size w w' ∧ ∃ g cap, v = .slice (some ⟨g, 0, none⟩) l.length cap

theorem eq_one (s0 : ByteArray) (s1 : Int) (w : World) : Calls Tryd.prog 24 #[.agg #[.string s0, .int .i64 (s1)], .agg #[.string s0, .int .i64 (s1)]] w (Rec.Yes w) := by
  go_enter Tryd.func24, Tryd.ntmps24
  go_wp2
  go_ret
  exact ⟨rfl, ((Below.refl _ _).alloc (Nat.le_refl _) _).alloc (by simp) _⟩

theorem eq_nil (a a' : Option Addr) (cap cap' : Nat) (w : World) :
    Calls Tryd.prog 7 #[.slice a 0 cap, .slice a' 0 cap'] w (Rec.Yes w) := by
  go_enter Tryd.func7, Tryd.ntmps7
  go_wp2
  go_loop [5] (fun i => i = .int .i64 0) (fun i => 0)
  case atStart => rfl
  case round =>
    obtain rfl := hrel
    go_wp2
    go_ret
    exact ⟨rfl, Below.refl _ _⟩

set_option maxHeartbeats 1000000 in
theorem eq_some (b off cap b' off' cap' : Nat) (l : List T) (w : World) (hc : At w b off l) (hc' : At w b' off' l) (h0 : 0 < l.length) (hl : l.length ≤ 4194304) :
    Calls Tryd.prog 7 #[.slice (some ⟨b, off, none⟩) l.length cap, .slice (some ⟨b', off', none⟩) l.length cap'] w (Rec.Yes w) := by
  have hbl := at_lt hc h0
  have hbl' := at_lt hc' h0
  have HC := Lib.hid hc
  have HC' := Lib.hid hc'
  clear hc hc'
  go_enter Tryd.func7, Tryd.ntmps7
  go_wp2
  go_loopw [5] (fun i wr => ∃ k : Nat, k ≤ l.length ∧ i = .int .i64 k ∧ Below w.heap.size w wr) (fun i _ => l.length - (intOf i).toNat)
  case atStart => exact ⟨0, Nat.zero_le _, rfl, Below.refl _ _⟩
  case round =>
    obtain ⟨k, hk, rfl, hb⟩ := hrel
    by_cases hlt : k < l.length
    · have cc := at_cells (at_below HC.out (Rec.below_drew hb) hbl) hlt
      have cc' := at_cells (at_below HC'.out (Rec.below_drew hb) hbl') hlt
      obtain ⟨s0, hs0⟩ : ∃ z : ByteArray, z = ⟨((l.getD k nov).1).toArray⟩ := ⟨_, rfl⟩
      obtain ⟨s1, hs1⟩ : ∃ z : Int, z = (l.getD k nov).2 := ⟨_, rfl⟩
      rw [← hs0, ← hs1] at cc cc'
      clear hs0 hs1
      obtain ⟨c0, c1⟩ := cc
      obtain ⟨e0, e1⟩ := cc'
      have HB := Lib.hid (Rec.below_drew hb)
      clear hb
      go_wp2
      go_region_with (go_at_call 24; refine (eq_one s0 s1 wr.drew).mono ?_; rintro e wt ⟨rfl, hb1⟩; have HB1 := Lib.hid (Base.then_below HB.out hb1); clear hb1)
      all_goals go_wp2
      all_goals go_roundw
      all_goals first
        | exact ⟨k + 1, by omega, by go_num, HB1.out⟩
        | (simp [intOf]; omega)
    · go_wp2
      go_ret
      exact ⟨rfl, hb⟩

theorem eq_wide (v v' : Value) (B B' : Nat) (l : List T) (w : World) (h : Holds w B v l) (h' : Holds w B' v' l) (hl : l.length ≤ 4194304) :
    Calls Tryd.prog 7 #[v, v'] w (Rec.Yes w) := by
  rcases h with ⟨rfl, a, cap, rfl⟩ | ⟨h0, b, off, cap, rfl, _, _, hc⟩
  · rcases h' with ⟨_, a', cap', rfl⟩ | ⟨h0, _⟩
    · exact eq_nil a a' cap cap' w
    · exact absurd h0 (by simp)
  · rcases h' with ⟨rfl, _⟩ | ⟨_, b', off', cap', rfl, _, _, hc'⟩
    · exact absurd h0 (by simp)
    · exact eq_some b off cap b' off' cap' l w hc hc' h0 hl
theorem eq_same (v v' : Value) (B B' : Nat) (l : List T) (w : World) (h : Holds w B v l) (h' : Holds w B' v' l) (hl : l.length ≤ 1048576) :
    Calls Tryd.prog 7 #[v, v'] w (Rec.Yes w) := eq_wide v v' B B' l w h h' (Nat.le_trans hl (by decide))
end Go.Proofs.YtindnhmigljkaaaDoor.Qua
