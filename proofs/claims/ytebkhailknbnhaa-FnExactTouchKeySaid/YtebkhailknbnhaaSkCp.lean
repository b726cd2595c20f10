/-
  CONTRACT of the laws' toSketch: a copy that holds the same. Nothing that was there before is changed.
-/
import Derived.Test.YtebkhailknbnhaaSk
import Derived.Test.YtebkhailknbnhaaToIntO
namespace Go.Proofs.Ytebkhailknbnhaa.Sk
open Go Go.RowKit
set_option linter.unusedVariables false
set_option maxRecDepth 1000000

def CopiedO (zs : List Int) (n : Int) (w : World) (e : Ending) (w' : World) : Prop := ∃ v, e = .returned (.agg #[v, .int .i64 n]) ∧ Nums.OwnI w' w.heap.size v zs ∧ Below w.heap.size w w'
set_option maxHeartbeats 1000000 in
theorem copy_sk (u : Value) (zs : List Int) (n : Int) (w : World) (h : Nums.Holds w u zs) (hl : zs.length ≤ 1048576) :
    Calls Try.prog 9 #[.agg #[u, .int .i64 n]] w (CopiedO zs n w) := by
  have HB0 := Lib.hid ((((Below.refl w.heap.size w).alloc (Nat.le_refl _) (.cells #[u, .int .i64 n] 24)).alloc (by simp) (.cells #[.slice none 0 0, .int .i64 0] 26)).alloc (by simp; omega) (.cells #[.slice none 0 0, .int .i64 0] 26))
  have HS := Lib.hid (Nums.copy_own u zs _ (Nums.holds_below h HB0.out) (by omega))
  have HBX := Lib.hid HB0.out.size
  obtain ⟨a0, cap0, rfl, _⟩ := shape_n h
  unfold CopiedO
  unfold Nums.CopiedO at HS
  clear h
  go_enter Try.func9, Try.ntmps9
  go_wp2_with (fail)
  go_at_call 36
  refine HS.out.mono ?_
  rintro e w1 ⟨v, rfl, ho, hb1⟩
  have hk3 := Kept.three hb1
  have hk2 := Kept.two (Kept.below_in hb1)
  have hk1 := Kept.one (Kept.below_in (Kept.below_in hb1))
  obtain ⟨a, cap, rfl, hat⟩ := shape_n (Nums.own_holds ho)
  have q0 := hk3.1 0 _ rfl
  have q1 := hk3.1 1 _ rfl
  have r0 := hk2.1 0 _ rfl
  have r1 := hk2.1 1 _ rfl
  have x1 := hk1.1 1 _ rfl
  have fq0 := hk3.2 0
  have fq1 := hk3.2 1
  have fr0 := hk2.2 0
  have fr1 := hk2.2 1
  have HO := Lib.hid ho
  have HBW := Lib.hid (HB0.out.trans (hb1.mono HB0.out.size))
  clear ho hb1 hat hk3 hk2 hk1
  go_wp2
  refine bodyPost_ret (v := .agg #[.slice a zs.length cap, .int .i64 n]) (by simp [results, Try.results9, go_sem, r0, r1]) rfl ⟨_, rfl, ?_, ?_⟩
  · have hno : ∀ k, Value.ownBlock (.slice a zs.length cap) = some k → w.heap.size + 1 + 1 < k := fun k e => by have h9 := (HO.out.lt k e).1; simp at h9; omega
    have e2 : Value.ownBlock (.slice a zs.length cap) ≠ some (w.heap.size + 1 + 1) := fun e => by have := hno _ e; omega
    have e1 : Value.ownBlock (.slice a zs.length cap) ≠ some (w.heap.size + 1) := fun e => by have := hno _ e; omega
    exact Rec.own_mono (ownsRow_setCell_other (a := ⟨w.heap.size + 1, 1, none⟩) (ownsRow_setCell_other (a := ⟨w.heap.size + 1, 0, none⟩) (ownsRow_setCell_other (a := ⟨w.heap.size + 1 + 1, 1, none⟩) (ownsRow_setCell_other (a := ⟨w.heap.size + 1 + 1, 0, none⟩) HO.out e2 _) e2 _) e1 _) e1 _) (by simp; omega)
  · exact (((HBW.out.setCell (by show w.heap.size ≤ w.heap.size + 1 + 1; omega) _).setCell (by show w.heap.size ≤ w.heap.size + 1 + 1; omega) _).setCell (by show w.heap.size ≤ w.heap.size + 1; omega) _).setCell (by show w.heap.size ≤ w.heap.size + 1; omega) _
end Go.Proofs.Ytebkhailknbnhaa.Sk
