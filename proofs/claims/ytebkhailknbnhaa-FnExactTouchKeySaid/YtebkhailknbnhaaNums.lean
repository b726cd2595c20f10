/-
  PLAIN FACTS on slices of integers: what a slice holds (as a list), how that is kept, and how a slice that the call itself has built is such a one.
-/
import Derived.Test.YtebkhailknbnhaaBase
import Derived.ChangeSlices
import Derived.OwnWalk
import Derived.Laws.OwnMore
namespace Go.Proofs.Ytebkhailknbnhaa.Nums
open Go Go.RowKit
set_option linter.unusedVariables false
set_option maxRecDepth 1000000
set_option maxRecDepth 1000000

theorem info_int : (Try.prog.info? 3).map (fun i => (i.zero, i.size, i.bytes)) = some (some (.int .i64 0), 1, 8) := by kernel_rfl

/-- The cells from (b, off) on are these integers. -/
def At (w : World) (b off : Nat) (zs : List Int) : Prop := ∀ j, j < zs.length → w.cell? ⟨b, off + j, none⟩ = some (.int .i64 (zs.getD j 0))
/-- The slice v reads as the integers zs. -/
def Holds (w : World) (v : Value) (zs : List Int) : Prop := (zs = [] ∧ ∃ a cap, v = .slice a 0 cap) ∨ (0 < zs.length ∧ ∃ b off cap, v = .slice (some ⟨b, off, none⟩) zs.length cap ∧ At w b off zs)
def Wf (zs : List Int) : Prop := ∀ n ∈ zs, (Lit.int .i64 n).wf = true

theorem wf_getD {zs : List Int} (h : Wf zs) {j : Nat} (hj : j < zs.length) : (Lit.int .i64 (zs.getD j 0)).wf = true := by
  have : zs.getD j 0 = zs[j]'hj := by simp [List.getD, hj]
  rw [this]; exact h _ (List.getElem_mem _)
theorem lt_of_cell {w : World} {b o : Nat} {u : Value} (h : w.cell? ⟨b, o, none⟩ = some u) : b < w.heap.size := by
  rcases Nat.lt_or_ge b w.heap.size with h' | h'
  · exact h'
  · simp [World.cell?, Array.getElem?_eq_none h'] at h
theorem at_lt {w : World} {b off : Nat} {zs : List Int} (h : At w b off zs) (h0 : 0 < zs.length) : b < w.heap.size := lt_of_cell (h 0 h0)
theorem at_below {w w' : World} {B b off : Nat} {zs : List Int} (h : At w b off zs) (hb : Below B w w') (hlt : b < B) : At w' b off zs := fun j hj => by
  rw [hb.cell (p := ⟨b, off + j, none⟩) hlt]; exact h j hj
theorem holds_below {w w' : World} {v : Value} {zs : List Int} (h : Holds w v zs) (hb : Below w.heap.size w w') : Holds w' v zs := by
  rcases h with h | ⟨h0, b, off, cap, rfl, h1⟩
  · exact Or.inl h
  · exact Or.inr ⟨h0, b, off, cap, rfl, at_below h1 hb (at_lt h1 h0)⟩
/-- A slice that the call has built reads as what it owns. -/
theorem own_holds {w : World} {base : Nat} {e : TypeId} {v : Value} {zs : List Int} (h : w.ownsRow base e 1 v zs.length (zs.map (Value.int .i64))) : Holds w v zs := by
  have h' := h
  obtain ⟨hl, hc⟩ := h
  rcases hc with ⟨rfl, h0⟩ | ⟨g, cap, cur, rfl, hb, hg, hn, hcap, hs, ht⟩
  · exact Or.inl ⟨List.length_eq_zero_iff.1 h0, _, _, rfl⟩
  · by_cases h0 : zs = []
    · subst h0; exact Or.inl ⟨rfl, _, _, rfl⟩
    · refine Or.inr ⟨List.length_pos_iff.2 h0, g, 0, cap, rfl, fun j hj => ?_⟩
      rw [Nat.zero_add, h'.cellAt j (by omega)]
      simp [List.getD, hj]
theorem own_cell {w : World} {base : Nat} {e : TypeId} {g cap n : Nat} {zs : List Int} (h : w.ownsRow base e 1 (.slice (some ⟨g, 0, none⟩) n cap) n (zs.map (Value.int .i64))) {j : Nat} (hj : j < n) : w.cell? ⟨g, j, none⟩ = some (.int .i64 (zs.getD j 0)) := by
  have hn : zs.length = n := by simpa using h.1
  rw [h.cellAt j (by omega)]
  simp [List.getD, show j < zs.length by omega]

section
variable {H : Type} {enc : TypeId × Value → H}
/-- An argument of type []int, opened. -/
theorem open_arg {W : World} {base : Nat} {v : Value} {d : DataW H} {p : List MemPlace}
    (hok : Value.okWide Try.prog W .any base 22 v) (h : DataW.Trod enc Try.prog W 0 (fun _ => true) true 22 v d p) :
    ∃ a len cap zs, v = .slice a len cap ∧ len ≤ maxLen ∧ zs.length = len ∧ Holds W v zs ∧ Wf zs := by
  obtain ⟨a0, len, cap, rfl⟩ := WideShapes.okWide_slice Try.underlying22 hok
  obtain ⟨fuel, hf⟩ := h
  have c3 : Try.prog.cellsOf 3 = 1 := by kernel_rfl
  rcases ChangeShapes.open_ints Try.underlying22 Try.underlying3 c3 hf with ⟨hcs, hx⟩ | ⟨a, len', cap', zs, hcs, _, hl, hm, hz, hx, hcell, hwz⟩
  · simp [Value.cells] at hcs
    obtain ⟨rfl, rfl, rfl⟩ := hcs
    exact ⟨_, _, _, [], rfl, Nat.zero_le _, rfl, Or.inl ⟨rfl, _, _, rfl⟩, fun n hn => by cases hn⟩
  · simp [Value.cells] at hcs
    obtain ⟨rfl, rfl, rfl⟩ := hcs
    simp only [if_true] at hz
    have hlt : (zs.take len).length = len := by rw [List.length_take]; omega
    refine ⟨_, _, _, zs.take len, rfl, by omega, hlt, ?_, fun n hn => hwz n (List.mem_of_mem_take hn)⟩
    by_cases hl0 : len = 0
    · subst hl0; exact Or.inl ⟨by simp, _, _, rfl⟩
    · obtain ⟨b, off, spot⟩ := a
      have hspot : spot = none := by simpa [Addr.add] using World.cell?_spot (hcell 0 (by omega))
      subst hspot
      refine Or.inr ⟨by omega, b, off, cap, by rw [hlt], fun j hj => ?_⟩
      rw [← WideShapes.add_plain, hcell j (by omega)]
      simp [List.getD, show j < zs.length by omega, show j < len by omega, List.getElem?_take]
end
end Go.Proofs.Ytebkhailknbnhaa.Nums
