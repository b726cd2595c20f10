/-
  A SLICE OF TEXTS that stands in one cell of a struct, opened; its size (szStringS) against what is left.
-/
import Derived.Test.YtggokmhdmnkoiaaStrArg
namespace Go.Proofs.Ytggokmhdmnkoiaa.Strs
open Go Go.RowKit
set_option linter.unusedVariables false
set_option maxRecDepth 1000000
set_option maxRecDepth 1000000

section
variable {H : Type} {enc : TypeId × Value → H}
/-- A slice of texts that stands in one cell, opened. -/
theorem open_cells {W : World} {fuel : Nat} {cs0 : List Value} {x : DataW H × List MemPlace}
    (hf : DataW.trod enc Try.prog W 0 (fun _ => true) true fuel 66 cs0 = some x) :
    ∃ (v : Value) (xs : List (List UInt8)), cs0 = [v] ∧ Holds W W.heap.size v xs ∧ xs.length ≤ maxLen ∧ (∀ x ∈ xs, x.length ≤ maxLen) := by
  have c3 : Try.prog.cellsOf 9 = 1 := by kernel_rfl
  rcases Go.ChangeShapes.open_strings Try.underlying66 Try.underlying9 c3 hf with ⟨hcs, hx⟩ | ⟨a, len', cap', ss, hcs, _, hl, hm, hz, hx, hcell, hwz⟩
  · exact ⟨_, [], hcs, Or.inl ⟨rfl, _, _, rfl⟩, Nat.zero_le _, fun n hn => by cases hn⟩
  · simp only [if_true] at hz
    have hlt : ((ss.take len').map (·.data.toList)).length = len' := by rw [List.length_map, List.length_take]; omega
    refine ⟨_, (ss.take len').map (·.data.toList), hcs, ?_, by rw [hlt]; omega, ?_⟩
    · by_cases hl0 : len' = 0
      · subst hl0; exact Or.inl ⟨by simp, _, _, rfl⟩
      · obtain ⟨b, off, spot⟩ := a
        have hspot : spot = none := by simpa [Addr.add] using World.cell?_spot (hcell 0 (by omega))
        subst hspot
        have hc : At W b off ((ss.take len').map (·.data.toList)) := fun j hj => by
          rw [hlt] at hj
          rw [← WideShapes.add_plain, hcell j (by omega)]
          simp [List.getD, show j < ss.length by omega, show j < len' by omega, List.getElem?_take, sv]
        exact Or.inr ⟨by omega, b, off, _, by rw [hlt], at_lt hc (by omega), by omega, hc⟩
    · intro x hx
      obtain ⟨s, hs, rfl⟩ := List.mem_map.1 hx
      have := hwz s (List.mem_of_mem_take hs)
      rw [Array.length_toList]; exact this
end
def SizedL (xs : List (List UInt8)) (left : Int) (w : World) (e : Ending) (w' : World) : Prop := ∃ z : Int, e = .returned (.int .i64 z) ∧ (z < 0 ∨ (0 ≤ z ∧ z + total xs = left)) ∧ w = w'
theorem sizel_nil (a : Option Addr) (cap : Nat) (left : Int) (w : World) (h0 : 0 ≤ left) (h3 : left ≤ 1048576) :
    Calls Try.prog 65 #[.slice a 0 cap, .int .i64 left] w (SizedL [] left w) := by
  go_enter Try.func65, Try.ntmps65
  go_wp2
  go_loop [1, 5] (fun l i => i = .int .i64 0 ∧ l = .int .i64 left) (fun _ i => 0)
  case atStart => exact ⟨rfl, rfl⟩
  case round =>
    obtain ⟨rfl, rfl⟩ := hrel
    go_wp2
    go_ret
    exact ⟨_, rfl, Or.inr ⟨by omega, by simp [total_nil]⟩, rfl⟩

set_option maxHeartbeats 1000000 in
theorem sizel_some (b off cap : Nat) (xs : List (List UInt8)) (left : Int) (w : World) (hc : At w b off xs) (h0 : 0 < xs.length) (hl : xs.length ≤ maxLen) (hx : ∀ x ∈ xs, x.length ≤ maxLen) (hl0 : 0 ≤ left) (hl3 : left ≤ 1048576) :
    Calls Try.prog 65 #[.slice (some ⟨b, off, none⟩) xs.length cap, .int .i64 left] w (SizedL xs left w) := by
  have HC := Lib.hid hc
  have HX := Lib.hid hx
  unfold maxLen at hl
  clear hc hx
  by_cases hn : left - (xs.length : Int) < 0
  · go_enter Try.func65, Try.ntmps65
    go_wp2
    go_ret
    exact ⟨_, rfl, Or.inl (by omega), rfl⟩
  · go_enter Try.func65, Try.ntmps65
    go_wp2
    go_loop [1, 5] (fun l i => ∃ k : Nat, k ≤ xs.length ∧ i = .int .i64 (k : Int) ∧ 0 ≤ left - (xs.length : Int) - (pre xs k : Int) ∧ l = .int .i64 (left - (xs.length : Int) - (pre xs k : Int))) (fun _ i => xs.length - (intOf i).toNat)
    case atStart => exact ⟨0, Nat.zero_le _, rfl, by rw [pre_zero]; omega, by rw [pre_zero]; simp⟩
    case round =>
      obtain ⟨k, hk, rfl, hp, rfl⟩ := hrel
      by_cases hlt : k < xs.length
      · have hcell := HC.out k hlt
        have hxl : (xs.getD k []).length ≤ 9223372036854775807 := by
          have hm : xs.getD k [] ∈ xs := by
            rw [show xs.getD k [] = xs[k] by simp [List.getD, hlt]]; exact List.getElem_mem _
          have := HX.out _ hm; unfold maxLen at this; omega
        have HP := Lib.hid (pre_more hlt)
        generalize xs.getD k [] = x at *
        have hsz : (⟨x.toArray⟩ : ByteArray).size = x.length := by simp [ByteArray.size]
        unfold sv at hcell
        by_cases hneg : left - (xs.length : Int) - (pre xs k : Int) - (x.length : Int) < 0
        · go_wp2
          go_ret
          exact ⟨_, rfl, Or.inl (by omega), rfl⟩
        · go_wp2
          go_round
          case rel => exact ⟨k + 1, by omega, by go_num, by rw [HP.out]; omega, by rw [HP.out]; congr 1; omega⟩
          case measure => simp [intOf]; omega
      · have HT := Lib.hid (pre_all (xs := xs) (k := k) (by omega))
        go_wp2
        go_ret
        exact ⟨_, rfl, Or.inr ⟨hp, by rw [HT.out]; omega⟩, rfl⟩

theorem sizel_any (v : Value) (B : Nat) (xs : List (List UInt8)) (left : Int) (w : World) (h : Holds w B v xs) (hl : xs.length ≤ maxLen) (hx : ∀ x ∈ xs, x.length ≤ maxLen) (h0 : 0 ≤ left) (h3 : left ≤ 1048576) :
    Calls Try.prog 65 #[v, .int .i64 left] w (SizedL xs left w) := by
  rcases h with ⟨rfl, a, cap, rfl⟩ | ⟨hp, b, off, cap, rfl, _, _, hc⟩
  · exact sizel_nil a cap left w h0 h3
  · exact sizel_some b off cap xs left w hc hp hl hx h0 h3
end Go.Proofs.Ytggokmhdmnkoiaa.Strs
