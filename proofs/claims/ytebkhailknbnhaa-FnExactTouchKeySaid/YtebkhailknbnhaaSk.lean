/-
  CONTRACTS of the laws' helpers for a Sketch: an argument of that type, opened; its size (szSketch), a copy (toSketch), the comparison of two that hold the same (eqSketch). Nothing that was there before is changed.
-/
import Derived.Test.YtebkhailknbnhaaToInt
import Derived.Test.YtebkhailknbnhaaEqInt
import Derived.Test.YtebkhailknbnhaaKept
import Derived.Test.YtebkhailknbnhaaRec
import Derived.LoopTactic
import Derived.Outline
namespace Go.Proofs.Ytebkhailknbnhaa.Nums
open Go Go.RowKit
theorem holds_drew {w : World} {v : Value} {zs : List Int} (h : Holds w v zs) : Holds w.drew v zs := h
end Go.Proofs.Ytebkhailknbnhaa.Nums
namespace Go.Proofs.Ytebkhailknbnhaa.Sk
open Go Go.RowKit
set_option linter.unusedVariables false
set_option maxRecDepth 1000000

def Ok (zs : List Int) (n : Int) : Prop := zs.length ≤ maxLen ∧ Nums.Wf zs ∧ (Lit.int .i64 n).wf = true
theorem shape_n {w : World} {v : Value} {zs : List Int} (h : Nums.Holds w v zs) : ∃ a cap, v = .slice a zs.length cap ∧ (0 < zs.length → ∃ b off, a = some ⟨b, off, none⟩ ∧ Nums.At w b off zs) := by
  rcases h with ⟨rfl, a, cap, rfl⟩ | ⟨h0, b, off, cap, rfl, hc⟩
  · exact ⟨a, cap, rfl, fun h => by simp at h⟩
  · exact ⟨_, cap, rfl, fun _ => ⟨b, off, rfl, hc⟩⟩
theorem cell2_one {W : World} {a b : Value} {T : TypeId} : (W.alloc (.cells #[a, b] T)).cell? ⟨W.heap.size, 0, none⟩ = some a ∧ (W.alloc (.cells #[a, b] T)).cell? ⟨W.heap.size, 1, none⟩ = some b :=
  ⟨by rw [World.cell?_alloc_new]; rfl, by rw [World.cell?_alloc_new]; rfl⟩

set_option maxRecDepth 1000000 in
/-- A slice of integers that stands in one cell, opened. -/
theorem open_cells {H : Type} {enc : TypeId × Value → H} {W : World} {fuel : Nat} {cs0 : List Value} {x : DataW H × List MemPlace}
    (hf : DataW.trod enc Try.prog W 0 (fun _ => true) true fuel 22 cs0 = some x) :
    ∃ (v : Value) (zs : List Int), cs0 = [v] ∧ Nums.Holds W v zs ∧ zs.length ≤ maxLen ∧ Nums.Wf zs := by
  have c3 : Try.prog.cellsOf 3 = 1 := by kernel_rfl
  rcases ChangeShapes.open_ints Try.underlying22 Try.underlying3 c3 hf with ⟨hcs, hx⟩ | ⟨a, len', cap', zs, hcs, _, hl, hm, hz, hx, hcell, hwz⟩
  · exact ⟨_, [], hcs, Or.inl ⟨rfl, _, _, rfl⟩, Nat.zero_le _, fun n hn => by cases hn⟩
  · simp only [if_true] at hz
    have hlt : (zs.take len').length = len' := by rw [List.length_take]; omega
    refine ⟨_, zs.take len', hcs, ?_, by omega, fun n hn => hwz n (List.mem_of_mem_take hn)⟩
    by_cases hl0 : len' = 0
    · subst hl0; exact Or.inl ⟨by simp, _, _, rfl⟩
    · obtain ⟨b, off, spot⟩ := a
      have hspot : spot = none := by simpa [Addr.add] using World.cell?_spot (hcell 0 (by omega))
      subst hspot
      refine Or.inr ⟨by omega, b, off, cap', by rw [hlt], fun j hj => ?_⟩
      rw [← WideShapes.add_plain, hcell j (by omega)]
      simp [List.getD, show j < zs.length by omega, show j < len' by omega, List.getElem?_take]

set_option maxRecDepth 1000000 in
/-- An argument of type laws.Sketch, opened. -/
theorem open_sk {H : Type} {enc : TypeId × Value → H} {W : World} {base : Nat} {v : Value} {d : DataW H} {p : List MemPlace}
    (hok : Value.okWide Try.prog W .any base 24 v) (h : DataW.Trod enc Try.prog W 0 (fun _ => true) true 24 v d p) :
    ∃ (u : Value) (zs : List Int) (n : Int), v = .agg #[u, .int .i64 n] ∧ Nums.Holds W u zs ∧ Ok zs n := by
  obtain ⟨cs', rfl, hsz⟩ := WideShapes.okWide_struct Try.underlying24 hok
  obtain ⟨fuel, hf⟩ := h
  have celi : Try.prog.cellsOf 3 = 1 := by kernel_rfl
  have celf : Try.prog.cellsOf 22 = 1 := by kernel_rfl
  have ce : Try.prog.cellsOf 24 = 2 := by kernel_rfl
  obtain ⟨l⟩ := cs'
  obtain ⟨xs, k, hk, hxy, _, hxl, hg⟩ := DataW.trod_struct Try.underlying24 hf
  match l, hsz.trans ce, xs, hxl with
  | [v0, v1], _, [y0, y1], _ =>
    have g0 := hg 0 _ rfl
    have g1 := hg 1 _ rfl
    simp [Value.cells, celi, celf] at g0 g1
    obtain ⟨u, zs, hu, hh, hl1, hl2⟩ := open_cells g0
    obtain rfl : v0 = u := by simpa using hu
    obtain ⟨c, z0, _, o0⟩ := DataW.trod_int Try.underlying3 g1
    obtain rfl : v1 = _ := by simpa using z0
    exact ⟨v0, zs, c, by simp, hh, hl1, hl2, o0⟩

theorem size_ints (u : Value) (zs : List Int) (left : Int) (w : World) (h : Nums.Holds w u zs) (hl : zs.length ≤ maxLen) (h0 : 0 ≤ left) (h3 : left ≤ 1048576) :
    Calls Try.prog 32 #[u, .int .i64 left] w fun e w' => ∃ z : Int, e = .returned (.int .i64 z) ∧ (z < 0 ∨ (0 ≤ z ∧ z + (zs.length : Int) = left)) ∧ w = w' := by
  obtain ⟨a, cap, rfl, _⟩ := shape_n h
  unfold maxLen at hl
  clear h
  by_cases hq : left - (zs.length : Int) < 0
  · go_enter Try.func32, Try.ntmps32
    go_wp2
    go_ret
    exact ⟨_, rfl, Or.inl (by omega), rfl⟩
  · go_enter Try.func32, Try.ntmps32
    go_wp2
    go_ret
    exact ⟨_, rfl, Or.inr ⟨by omega, by omega⟩, rfl⟩

set_option maxHeartbeats 1000000 in
/-- Its size: not below 0 just where it is at most what is left. -/
theorem size_sk (u : Value) (zs : List Int) (n : Int) (left : Int) (w : World) (h : Nums.Holds w u zs) (hok : Ok zs n) (h0 : 0 ≤ left) (h3 : left ≤ 1048576) :
    Calls Try.prog 7 #[.agg #[u, .int .i64 n], .int .i64 left] w fun e w' => ∃ z : Int, e = .returned (.int .i64 z) ∧ (z < 0 ∨ (0 ≤ z ∧ z + (zs.length : Int) = left)) ∧ Below w.heap.size w w' := by
  have HB0 := Lib.hid ((Below.refl w.heap.size w).alloc (Nat.le_refl _) (.cells #[u, .int .i64 n] 24))
  have HS := Lib.hid (size_ints u zs left _ (Nums.holds_below h HB0.out) hok.1 h0 h3)
  obtain ⟨a, cap, rfl, _⟩ := shape_n h
  clear h hok
  go_enter Try.func7, Try.ntmps7
  go_wp2_with (fail)
  go_at_call 32
  refine HS.out.mono ?_
  rintro e w1 ⟨z, rfl, hz, rfl⟩
  rcases hz with hz | ⟨hz0, hz1⟩
  · go_wp2
    go_ret
    exact ⟨_, rfl, Or.inl (by omega), HB0.out⟩
  · have hzn : ¬ z < 0 := by omega
    have HT := Lib.hid hz1
    clear hz1
    go_wp2
    go_ret
    exact ⟨_, rfl, Or.inr ⟨by omega, HT.out⟩, HB0.out⟩

def Copied (zs : List Int) (n : Int) (w : World) (e : Ending) (w' : World) : Prop := ∃ v, e = .returned (.agg #[v, .int .i64 n]) ∧ Nums.Holds w' v zs ∧ Below w.heap.size w w'
theorem holds_set {w : World} {g o : Nat} {u : Value} {zs : List Int} {v x y : Value} (h : Nums.Holds w u zs) (hx : w.cell? ⟨g, o, none⟩ = some x) (hne : ∀ a n c, u = .slice (some a) n c → a.block ≠ g) : Nums.Holds (w.setCell ⟨g, o, none⟩ v) u zs := by
  rcases h with h | ⟨h0, b, off, cap, rfl, h1⟩
  · exact Or.inl h
  · refine Or.inr ⟨h0, b, off, cap, rfl, fun j hj => ?_⟩
    rw [World.cell?_setCell_other _ _ _ _ (fun e => hne _ _ _ rfl (by cases e; rfl))]
    exact h1 j hj
theorem eq_sk (u v : Value) (zs : List Int) (n : Int) (w : World) (h : Nums.Holds w u zs) (h' : Nums.Holds w v zs) (hl : zs.length ≤ 1048576) :
    Calls Try.prog 11 #[.agg #[u, .int .i64 n], .agg #[v, .int .i64 n]] w (Rec.Yes w) := by
  have HB0 := Lib.hid (((Below.refl w.heap.size w).alloc (Nat.le_refl _) (.cells #[u, .int .i64 n] 26)).alloc (by simp) (.cells #[v, .int .i64 n] 26))
  have HS := Lib.hid (Nums.eq_same u v zs _ (Nums.holds_below h HB0.out) (Nums.holds_below h' HB0.out) (by omega))
  have HK := Lib.hid (fun W => Kept.two (w := w) (w1 := W) (o := .cells #[u, .int .i64 n] 26) (T := 26) (a := #[v, .int .i64 n]))
  have HK1 := Lib.hid (fun W => Kept.one (w := w) (w1 := W) (T := 26) (a := #[u, .int .i64 n]))
  obtain ⟨a, cap, rfl, _⟩ := shape_n h
  obtain ⟨a', cap', rfl, _⟩ := shape_n h'
  unfold Nums.Yes at HS
  unfold Rec.Yes
  clear h h'
  go_enter Try.func11, Try.ntmps11
  go_wp2_with (fail)
  go_at_call 41
  refine HS.out.mono ?_
  rintro e w1 ⟨rfl, hb1⟩
  have k2 := (HK.out _ hb1).1 1 _ rfl
  have k1 := (HK1.out _ (Kept.below_in hb1)).1 1 _ rfl
  have HBW := Lib.hid (HB0.out.trans (hb1.mono HB0.out.size))
  clear hb1
  go_wp2
  all_goals first | (go_ret; exact ⟨rfl, HBW.out⟩) | (go_region; all_goals go_wp2; all_goals go_ret; all_goals exact ⟨rfl, Rec.below_drew HBW.out⟩)
end Go.Proofs.Ytebkhailknbnhaa.Sk
