/-
  CONTRACT of the program's addMissing, and facts on the worlds of the round of MissingSpans.
-/
import Derived.Test.YtegaakgmfphcaaaSpnIsI
import Derived.Test.YtegaakgmfphcaaaSpnMm
import Derived.Deep.RegionHeld3
namespace Go.Proofs.Ytegaakgmfphcaaa.Spn
open Go Go.RowKit
set_option linter.unusedVariables false
set_option maxRecDepth 1000000

def Added (B : Nat) (v0 : Value) (l : List T) (w : World) (e : Ending) (w' : World) : Prop := ∃ v, e = .returned v ∧ Own w' B v l ∧ w.grownBy w' v0.ownBlock
def Missed (l : List T) (w : World) (e : Ending) (w' : World) : Prop := ∃ v, e = .returned v ∧ Own w' w.heap.size v l ∧ Below w.heap.size w w'

set_option maxHeartbeats 1000000 in
theorem add_missing (v : Value) (B : Nat) (m : List T) (x y : Int) (w : World) (hown : Own w B v m) (hB : B ≤ w.heap.size) (hm : m.length ≤ 4194304) :
    Calls Try.prog 23 #[v, .agg #[.int .i64 x, .int .i64 y]] w (Added B v (addm m (x, y)) w) := by
  obtain ⟨i0, hi, hz0, hz1, hz2⟩ := info_parts info_r
  have HBA : Hid (Below w.heap.size w (w.alloc (.cells #[.int .i64 x, .int .i64 y] 26))) := Lib.hid ((Below.refl _ _).alloc (Nat.le_refl _) _)
  have HH := Lib.hid (has_bytes x y)
  have HOA := Lib.hid (row_below hown HBA.out)
  have HX : Hid ((w.alloc (.cells #[.int .i64 x, .int .i64 y] 26)).cell? ⟨w.heap.size, 0, none⟩ = some (.int .i64 x) ∧ (w.alloc (.cells #[.int .i64 x, .int .i64 y] 26)).cell? ⟨w.heap.size, 1, none⟩ = some (.int .i64 y)) := Lib.hid ⟨by rw [World.cell?_alloc_new]; rfl, by rw [World.cell?_alloc_new]; rfl⟩
  clear hown
  by_cases h : x < y
  · have HD : Hid (decide (x < y) = true) := Lib.hid (by simpa using h)
    have HE : Hid (addm m (x, y) = m ++ [(x, y)]) := Lib.hid (addm_yes h)
    rw [HE.out]
    clear h
    go_enter Try.func23, Try.ntmps23
    go_wp2_with (fail)
    go_at_call 26
    refine (HH.out _).mono ?_
    rintro e w1 ⟨he, hb⟩
    rw [HD.out] at he
    subst he
    have hx0 := (hb.cell (p := ⟨w.heap.size, 0, none⟩) (by simp)).trans HX.out.1
    have hx1 := (hb.cell (p := ⟨w.heap.size, 1, none⟩) (by simp)).trans HX.out.2
    have hown := row_below HOA.out hb
    have HB1 := Lib.hid (HBA.out.trans (hb.mono (by simp)))
    have hL := fcs_len m
    clear hb
    go_wp2_with (at_builtin; refine wpList_append_own _ rfl (.tmp 9) (.tmp 11) 24 rfl B 26 i0 (.agg #[.int .i64 0, .int .i64 0]) 2 16 Try.underlying24 hi hz0 hz1 hz2 rfl (by decide) _ _ _ rfl (hown.alloc _) ⟨w1.heap.size, 0, none⟩ 1 1 [.int .i64 x, .int .i64 y] rfl rfl (Rec.news _ _ _) (cs_one (x, y)) (by unfold maxLen; omega) (by omega) (by have := HB1.out.size; simp; omega) ?_; intro v1 w2 hown1 hg1 _)
    have HO : Hid (Own w2 B v1 (m ++ [(x, y)])) := Lib.hid (by show World.ownsRow _ _ _ _ _ _ _; rw [List.length_append, fcs_more]; exact hown1)
    have HB2 : Hid (w.grownBy w2 v.ownBlock) := Lib.hid (Rec.grown_trans (Rec.grown_of_below (HB1.out.alloc HB1.out.size (.cells #[.int .i64 x, .int .i64 y] 26))) hg1)
    clear hown hown1 hg1
    go_wp2
    go_ret
    exact ⟨_, rfl, HO.out, HB2.out⟩
  · have HD : Hid (decide (x < y) = false) := Lib.hid (by simpa using h)
    have HE : Hid (addm m (x, y) = m) := Lib.hid (addm_no h)
    rw [HE.out]
    clear h
    go_enter Try.func23, Try.ntmps23
    go_wp2_with (fail)
    go_at_call 26
    refine (HH.out _).mono ?_
    rintro e w1 ⟨he, hb⟩
    rw [HD.out] at he
    subst he
    have HO := Lib.hid (row_below HOA.out hb)
    have HB1 : Hid (w.grownBy w1 v.ownBlock) := Lib.hid (Rec.grown_of_below (HBA.out.trans (hb.mono (by simp))))
    clear hb
    go_wp2
    go_ret
    exact ⟨_, rfl, HO.out, HB1.out⟩

def KeptS (w w' : World) : Prop := Below w.heap.size w w' ∧ w'.frozen? ⟨w.heap.size, 0, none⟩ = false ∧ w.heap.size < w'.heap.size
theorem grown_frozen {w w' : World} {row : Option Nat} {g o : Nat} (hg : w.grownBy w' row) (hlt : g < w.heap.size) (hne : some g ≠ row) : w'.frozen? ⟨g, o, none⟩ = w.frozen? ⟨g, o, none⟩ := by
  unfold World.frozen?; rw [hg.block g hlt hne]
theorem kept_grown {w w0 w1 : World} {row : Option Nat} (h : KeptS w w0) (hg : w0.grownBy w1 row) (hr : ∀ k, row = some k → w.heap.size + 1 ≤ k) : KeptS w w1 := by
  refine ⟨h.1.grown hg h.1.size (fun k e => by have := hr k e; omega), ?_, Nat.lt_of_lt_of_le h.2.2 hg.size⟩
  rw [grown_frozen hg h.2.2 (fun e => by have := hr _ e.symm; omega)]; exact h.2.1
theorem mst_eq (to : Int) (m : List T) (n : Int) (x y : Int) : mst to (m, n) (x, y) = (addm m (n, min x to), max n y) := rfl

end Go.Proofs.Ytegaakgmfphcaaa.Spn
