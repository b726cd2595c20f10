/-
  A SLICE OF FIELDS that stands in one cell of a struct (as in a request or a response), opened.
-/
import Derived.Test.YtbkjioggohjnfaaDoorFldArg
namespace Go.Proofs.YtbkjioggohjnfaaDoor.Flds
open Go Go.RowKit
set_option linter.unusedVariables false
set_option maxRecDepth 1000000

set_option maxRecDepth 1000000 in
/-- A slice of fields that stands in one cell, opened. -/
theorem open_cells {H : Type} {enc : TypeId × Value → H} {W : World} {fuel : Nat} {cs : List Value} {x : DataW H × List MemPlace}
    (hf : DataW.trod enc Tryd.prog W 0 (fun _ => true) true fuel 22 cs = some x) :
    ∃ (v : Value) (l : List Fld), cs = [v] ∧ Holds W W.heap.size v l ∧ l.length ≤ maxLen ∧ (∀ f ∈ l, f.1.length ≤ maxLen ∧ f.2.length ≤ maxLen) := by
  have c1 : Tryd.prog.cellsOf 9 = 1 := by kernel_rfl
  have c2 : Tryd.prog.cellsOf 36 = 2 := by kernel_rfl
  rcases Deep.open_slice_pairs Tryd.underlying22 Tryd.underlying36 c2 rfl rfl c1 c1 hf with ⟨hcs, hx⟩ | ⟨a, len', cap', m, n, V0, V1, D0, D1, P0, P1, hcs, _, hl, hm, hmm, hx, hall⟩
  · exact ⟨_, [], hcs, Or.inl ⟨rfl, _, _, rfl⟩, Nat.zero_le _, fun f hf => by cases hf⟩
  · simp only [if_true] at hmm
    subst hmm
    have each : ∀ i, i < m → ∃ f : Fld, W.cell? (a.add (i * 2)) = some (sv f.1) ∧ W.cell? (a.add (i * 2 + 1)) = some (sv f.2) ∧ f.1.length ≤ maxLen ∧ f.2.length ≤ maxLen := fun i hi => by
      obtain ⟨h0, h1, h2, h3⟩ := hall i hi
      obtain ⟨s, hs, hsz⟩ := trod_text h2
      obtain ⟨u, hu, huz⟩ := trod_text h3
      refine ⟨(s.data.toList, u.data.toList), by rw [h0, hs]; rfl, by rw [h1, hu]; rfl, ?_, ?_⟩
      · show s.data.toList.length ≤ maxLen; rw [Array.length_toList]; exact hsz
      · show u.data.toList.length ≤ maxLen; rw [Array.length_toList]; exact huz
    obtain ⟨F, hF⟩ := Deep.choose_lt each
    have hln : ((List.range len').map F).length = len' := by simp
    have hget : ∀ j, j < len' → ((List.range len').map F).getD j nofld = F j := fun j hj => by simp [List.getD, hj]
    refine ⟨_, (List.range len').map F, hcs, ?_, by rw [hln]; omega, ?_⟩
    · by_cases hl0 : len' = 0
      · subst hl0; exact Or.inl ⟨by simp, _, _, rfl⟩
      · obtain ⟨b, off, spot⟩ := a
        have hspot : spot = none := by simpa [Addr.add] using World.cell?_spot (hF 0 (by omega)).1
        subst hspot
        have hc : At W b off ((List.range len').map F) := fun j hj => by
          rw [hln] at hj
          rw [hget j hj, ← WideShapes.add_plain, Nat.add_assoc, ← WideShapes.add_plain]
          exact ⟨(hF j (by omega)).1, (hF j (by omega)).2.1⟩
        exact Or.inr ⟨by omega, b, off, _, by rw [hln], at_lt hc (by omega), by omega, hc⟩
    · intro f hf
      obtain ⟨i, hi, rfl⟩ := List.mem_map.1 hf
      have hi' := List.mem_range.1 hi
      exact (hF i (by omega)).2.2

end Go.Proofs.YtbkjioggohjnfaaDoor.Flds
