/-
  A SLICE OF VERSIONS that stands in one cell of a struct, opened.
-/
import Derived.Test.YtggokmhdmnkoiaaVerArg
namespace Go.Proofs.Ytggokmhdmnkoiaa.Ver
open Go Go.RowKit
set_option linter.unusedVariables false
set_option maxRecDepth 1000000

set_option maxRecDepth 1000000 in
/-- A slice of versions that stands in one cell, opened. -/
theorem open_cells {H : Type} {enc : TypeId × Value → H} {W : World} {fuel : Nat} {cs0 : List Value} {x : DataW H × List MemPlace}
    (hf : DataW.trod enc Try.prog W 0 (fun _ => true) true fuel 94 cs0 = some x) :
    ∃ (v : Value) (l : List T), cs0 = [v] ∧ Holds W W.heap.size v l ∧ l.length ≤ maxLen ∧ (∀ f ∈ l, Ok f) := by
  have celi : Try.prog.cellsOf 3 = 1 := by kernel_rfl
  have cels : Try.prog.cellsOf 9 = 1 := by kernel_rfl
  have celb : Try.prog.cellsOf 4 = 1 := by kernel_rfl
  have ce : Try.prog.cellsOf 127 = 3 := by kernel_rfl
  rcases Deep.open_slice Try.underlying94 hf with ⟨hcs, hx⟩ | ⟨a, len', cap', m, n, D, Pl, hcs, _, hl, hm, hmm, hx, hall⟩
  · exact ⟨_, [], hcs, Or.inl ⟨rfl, _, _, rfl⟩, Nat.zero_le _, fun f hf => by cases hf⟩
  · simp only [if_true] at hmm
    subst hmm
    have each : ∀ i, i < m → ∃ f : T, (∀ k u, (cs f)[k]? = some u → W.cell? (a.add (i * 3 + k)) = some u) ∧ Ok f := fun i hi => by
      obtain ⟨cs', h1, h2⟩ := hall i hi
      rw [ce] at h1
      obtain ⟨_, hlen, hcell⟩ := World.cells?_some h1
      obtain ⟨xs, k, hk, hxy, _, hxl, hf⟩ := DataW.trod_struct Try.underlying127 h2
      match xs, hxl, cs', hlen with
      | [y0, y1, y2], _, [v0, v1, v2], _ =>
      have g0 := hf 0 _ rfl
      have g1 := hf 1 _ rfl
      have g2 := hf 2 _ rfl
      simp [celi, cels, celb] at g0 g1 g2
      have e0 := hcell 0 (by omega)
      have e1 := hcell 1 (by omega)
      have e2 := hcell 2 (by omega)
      rw [Deep.add_add] at e0 e1 e2
      obtain ⟨s0, z0, _, o0⟩ := DataW.trod_int Try.underlying3 g0
      obtain rfl : v0 = _ := by simpa using z0
      obtain ⟨s1, z1, _, o1⟩ := DataW.trod_string Try.underlying9 g1
      obtain rfl : v1 = _ := by simpa using z1
      obtain ⟨s2, z2, _⟩ := DataW.trod_bool Try.underlying4 g2
      obtain rfl : v2 = _ := by simpa using z2
      refine ⟨(s0, s1.data.toList, s2), fun k u hu => ?_, ⟨(wf_range o0), (by show s1.data.toList.length ≤ maxLen; rw [Array.length_toList]; exact o1)⟩⟩
      match k, hu with
      | 0, hu => exact e0.trans hu
      | 1, hu => exact e1.trans hu
      | 2, hu => exact e2.trans hu
      | k + 3, hu => simp [cs] at hu
    obtain ⟨G, hG⟩ := Deep.choose_lt (α := T) each
    have hln : ((List.range len').map G).length = len' := by simp
    have hget : ∀ j, j < len' → ((List.range len').map G).getD j nov = G j := fun j hj => by simp [List.getD, hj]
    refine ⟨_, (List.range len').map G, hcs, ?_, by rw [hln]; omega, ?_⟩
    · by_cases hl0 : len' = 0
      · subst hl0; exact Or.inl ⟨by simp, _, _, rfl⟩
      · obtain ⟨b, off, spot⟩ := a
        have hspot : spot = none := by simpa [Addr.add] using World.cell?_spot ((hG 0 (by omega)).1 0 _ rfl)
        subst hspot
        have hc : At W b off ((List.range len').map G) := fun j hj i u hu => by
          rw [hln] at hj
          rw [hget j hj] at hu
          rw [Nat.add_assoc, ← WideShapes.add_plain]
          exact (hG j (by omega)).1 i u hu
        exact Or.inr ⟨by omega, b, off, _, by rw [hln], at_lt hc (by omega), by omega, hc⟩
    · intro f hf
      obtain ⟨i, hi, rfl⟩ := List.mem_map.1 hf
      have hi' := List.mem_range.1 hi
      exact (hG i (by omega)).2
end Go.Proofs.Ytggokmhdmnkoiaa.Ver
