/-
  PLAIN FACTS on a slice of integers whose block lies below a bound; and eqSketch at longer lists.
-/
import Derived.Test.YtebkhailknbnhaaMarkI
namespace Go.Proofs.Ytebkhailknbnhaa.Ib
open Go Go.RowKit
set_option linter.unusedVariables false
set_option maxRecDepth 1000000

def Holds (w : World) (B : Nat) (v : Value) (zs : List Int) : Prop := (zs = [] ∧ ∃ a cap, v = .slice a 0 cap) ∨ (0 < zs.length ∧ ∃ b off cap, v = .slice (some ⟨b, off, none⟩) zs.length cap ∧ b < B ∧ Nums.At w b off zs)
theorem of_nums {w : World} {v : Value} {zs : List Int} (h : Nums.Holds w v zs) : Holds w w.heap.size v zs := by
  rcases h with h | ⟨h0, b, off, cap, rfl, hc⟩
  · exact Or.inl h
  · exact Or.inr ⟨h0, b, off, cap, rfl, Nums.at_lt hc h0, hc⟩
theorem nums {w : World} {B : Nat} {v : Value} {zs : List Int} (h : Holds w B v zs) : Nums.Holds w v zs := by
  rcases h with h | ⟨h0, b, off, cap, rfl, _, hc⟩
  · exact Or.inl h
  · exact Or.inr ⟨h0, b, off, cap, rfl, hc⟩
theorem holds_below {w w' : World} {B : Nat} {v : Value} {zs : List Int} (h : Holds w B v zs) (hb : Below B w w') : Holds w' B v zs := by
  rcases h with h | ⟨h0, b, off, cap, rfl, hlt, hc⟩
  · exact Or.inl h
  · exact Or.inr ⟨h0, b, off, cap, rfl, hlt, Nums.at_below hc hb hlt⟩
theorem holds_grown {w w' : World} {B : Nat} {v : Value} {zs : List Int} {row : Option Nat} (h : Holds w B v zs) (hg : w.grownBy w' row) (hr : ∀ k, row = some k → B ≤ k) : Holds w' B v zs := by
  rcases h with h | ⟨h0, b, off, cap, rfl, hlt, hc⟩
  · exact Or.inl h
  · exact Or.inr ⟨h0, b, off, cap, rfl, hlt, fun j hj => hg.cell (hc j hj) (fun e => by have := hr b e.symm; omega)⟩
end Go.Proofs.Ytebkhailknbnhaa.Ib
namespace Go.Proofs.Ytebkhailknbnhaa.Sk
open Go Go.RowKit
set_option linter.unusedVariables false
set_option maxRecDepth 1000000 in
theorem eq_sk_wide (u v : Value) (zs : List Int) (n : Int) (w : World) (h : Nums.Holds w u zs) (h' : Nums.Holds w v zs) (hl : zs.length ≤ 100000000) :
    Calls Try.prog 11 #[.agg #[u, .int .i64 n], .agg #[v, .int .i64 n]] w (Rec.Yes w) := by
  have HB0 := Lib.hid (((Below.refl w.heap.size w).alloc (Nat.le_refl _) (.cells #[u, .int .i64 n] 26)).alloc (by simp) (.cells #[v, .int .i64 n] 26))
  have HS := Lib.hid (Nums.eq_same u v zs _ (Nums.holds_below h HB0.out) (Nums.holds_below h' HB0.out) (by omega))
  have HK := Lib.hid (fun W => Kept.two (w := w) (w1 := W) (o := .cells #[u, .int .i64 n] 26) (T := 26) (a := #[v, .int .i64 n]))
  have HK1 := Lib.hid (fun W => Kept.one (w := w) (w1 := W) (T := 26) (a := #[u, .int .i64 n]))
  obtain ⟨a, cap, rfl, _⟩ := shape_n h
  obtain ⟨a', cap', rfl, _⟩ := shape_n h'
  unfold Nums.Yes at HS
  unfold Rec.Yes
  clear h h'
  go_enter Try.func11, Try.ntmps11
  go_wp2_with (fail)
  go_at_call 41
  refine HS.out.mono ?_
  rintro e w1 ⟨rfl, hb1⟩
  have k2 := (HK.out _ hb1).1 1 _ rfl
  have k1 := (HK1.out _ (Kept.below_in hb1)).1 1 _ rfl
  have HBW := Lib.hid (HB0.out.trans (hb1.mono HB0.out.size))
  clear hb1
  go_wp2
  all_goals first | (go_ret; exact ⟨rfl, HBW.out⟩) | (go_region; all_goals go_wp2; all_goals go_ret; all_goals exact ⟨rfl, Rec.below_drew HBW.out⟩)
end Go.Proofs.Ytebkhailknbnhaa.Sk
