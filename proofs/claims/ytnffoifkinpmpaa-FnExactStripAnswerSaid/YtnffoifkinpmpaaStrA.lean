/-
  CONTRACTS of both sides' StripAnswer; nothing that was there before is changed.
-/
import Derived.Test.YtnffoifkinpmpaaCpyS
import Derived.Test.YtnffoifkinpmpaaFldDrop
import Derived.Test.YtnffoifkinpmpaaKept
import Derived.RegionTactic
import Derived.Deep.RegionWith
namespace Go.Proofs.Ytnffoifkinpmpaa.Flds
open Go Go.RowKit
set_option linter.unusedVariables false
set_option maxRecDepth 1000000
set_option maxRecDepth 1000000

def ageN : List UInt8 := [97, 103, 101]
def stampN : List UInt8 := [120, 45, 112, 117, 114, 103, 101]
/-- The fields that nodes do not change. -/
def strip (l : List Fld) : List Fld := keepn stampN (keepn ageN l)
theorem strip_len (l : List Fld) : (strip l).length ≤ l.length := Nat.le_trans (keepn_le _ _) (keepn_le _ _)
/-- What the walk reads and writes: the answer in block p, the result in block q. -/
def KeepR (c : Int) (v : Value) (b : List UInt8) (p q : Nat) (u : World) : Prop :=
  (u.cell? ⟨p, 0, none⟩ = some (.int .i64 c) ∧ u.cell? ⟨p, 1, none⟩ = some v ∧ u.cell? ⟨p, 2, none⟩ = some (.string ⟨b.toArray⟩)) ∧
  (u.cell? ⟨q, 0, none⟩ = some (.int .i64 0) ∧ u.cell? ⟨q, 1, none⟩ = some (.slice none 0 0) ∧ u.cell? ⟨q, 2, none⟩ = some (.string ⟨#[]⟩)) ∧ u.frozen? ⟨q, 0, none⟩ = false ∧ u.frozen? ⟨q, 1, none⟩ = false ∧ u.frozen? ⟨q, 2, none⟩ = false
theorem keepr_below {c : Int} {v : Value} {b : List UInt8} {p q : Nat} {u u' : World} (h : KeepR c v b p q u) (hb : Below u.heap.size u u') : KeepR c v b p q u' := by
  obtain ⟨⟨a0, a1, a2⟩, ⟨b0, b1, b2⟩, c0, c1, c2⟩ := h
  have hp := Rec.lt_of_cell a0
  have hq := Rec.lt_of_cell b0
  exact ⟨⟨(hb.cell (p := ⟨p, 0, none⟩) hp).trans a0, (hb.cell (p := ⟨p, 1, none⟩) hp).trans a1, (hb.cell (p := ⟨p, 2, none⟩) hp).trans a2⟩, ⟨(hb.cell (p := ⟨q, 0, none⟩) hq).trans b0, (hb.cell (p := ⟨q, 1, none⟩) hq).trans b1, (hb.cell (p := ⟨q, 2, none⟩) hq).trans b2⟩, (hb.frozen (p := ⟨q, 0, none⟩) hq).trans c0, (hb.frozen (p := ⟨q, 1, none⟩) hq).trans c1, (hb.frozen (p := ⟨q, 2, none⟩) hq).trans c2⟩
theorem keepr_start (c : Int) (v : Value) (b : List UInt8) (w : World) : KeepR c v b w.heap.size (w.heap.size + 1) ((w.alloc (.cells #[.int .i64 c, v, .string ⟨b.toArray⟩] 42)).alloc (.cells #[.int .i64 0, .slice none 0 0, .string ⟨#[]⟩] 42)) := by
  have hs : (w.alloc (.cells #[.int .i64 c, v, .string ⟨b.toArray⟩] 42)).heap.size = w.heap.size + 1 := by simp
  have hb : Below (w.alloc (.cells #[.int .i64 c, v, .string ⟨b.toArray⟩] 42)).heap.size (w.alloc (.cells #[.int .i64 c, v, .string ⟨b.toArray⟩] 42)) ((w.alloc (.cells #[.int .i64 c, v, .string ⟨b.toArray⟩] 42)).alloc (.cells #[.int .i64 0, .slice none 0 0, .string ⟨#[]⟩] 42)) := (Below.refl _ _).alloc (Nat.le_refl _) _
  refine ⟨⟨?_, ?_, ?_⟩, ⟨?_, ?_, ?_⟩, ?_, ?_, ?_⟩
  · rw [hb.cell (p := ⟨w.heap.size, 0, none⟩) (by rw [hs]; show w.heap.size < _; omega), World.cell?_alloc_new]; rfl
  · rw [hb.cell (p := ⟨w.heap.size, 1, none⟩) (by rw [hs]; show w.heap.size < _; omega), World.cell?_alloc_new]; rfl
  · rw [hb.cell (p := ⟨w.heap.size, 2, none⟩) (by rw [hs]; show w.heap.size < _; omega), World.cell?_alloc_new]; rfl
  · rw [← hs, World.cell?_alloc_new]; rfl
  · rw [← hs, World.cell?_alloc_new]; rfl
  · rw [← hs, World.cell?_alloc_new]; rfl
  · rw [← hs]; simp [go_sem]
  · rw [← hs]; simp [go_sem]
  · rw [← hs]; simp [go_sem]

set_option maxHeartbeats 4000000 in
theorem spec_strip (c : Int) (u : Value) (l : List Fld) (b : List UInt8) (B : Nat) (w : World) (h : Holds w B u l) (hB : B ≤ w.heap.size) (hl : l.length ≤ 1048576) :
    Calls Try.prog 22 #[.agg #[.int .i64 c, u, .string ⟨b.toArray⟩]] w (CopyEnd c (strip l) b w) := by
  have hb0 := (((Below.refl w.heap.size w).alloc (Nat.le_refl _) (.cells #[.int .i64 c, u, .string ⟨b.toArray⟩] 42)).alloc (by simp) (.cells #[.int .i64 0, .slice none 0 0, .string ⟨#[]⟩] 42))
  have HB := Lib.hid (Rec.below_drew hb0)
  have HY := Lib.hid (holds_below h ((Rec.below_drew hb0).mono hB))
  have HS : Hid (KeepR c u b w.heap.size (w.heap.size + 1) _) := Lib.hid (show KeepR c u b w.heap.size (w.heap.size + 1) ((w.alloc (.cells #[.int .i64 c, u, .string ⟨b.toArray⟩] 42)).alloc (.cells #[.int .i64 0, .slice none 0 0, .string ⟨#[]⟩] 42)).drew from keepr_start c u b w)
  have HL : Hid ((keepn ageN l).length ≤ 1048576) := Lib.hid (Nat.le_trans (keepn_le _ _) hl)
  have HF1 := Lib.hid (fun v B W (h : Holds W B v l) => spec_drop v B l ageN W h hl)
  have HF2 := Lib.hid (fun v B W (h : Holds W B v (keepn ageN l)) => spec_drop v B (keepn ageN l) stampN W h HL.out)
  have hst : strip l = keepn stampN (keepn ageN l) := rfl
  rw [← hst] at HF2
  have hdz : ((w.alloc (.cells #[.int .i64 c, u, .string ⟨b.toArray⟩] 42)).alloc (.cells #[.int .i64 0, .slice none 0 0, .string ⟨#[]⟩] 42)).drew.heap.size = w.heap.size + 2 := by show (World.alloc _ _).heap.size = _; simp
  unfold FilterEnd at HF1 HF2
  unfold CopyEnd
  generalize strip l = g at HF2 ⊢
  generalize keepn ageN l = m at HF1 HF2 HL
  unfold ageN at HF1
  unfold stampN at HF2
  clear h hst hb0 hB
  obtain ⟨⟨q0, q1, q2⟩, ⟨r0, r1, r2⟩, t0, t1, t2⟩ := HS.out
  go_enter Try.func22, Try.ntmps22
  go_wp2
  go_region_with (first
    | (go_at_call 50; refine (HF1.out _ _ _ HY.out).mono ?_; rintro e wz ⟨vM, rfl, oM, bz⟩; have hsz := bz.size; clear q0 q1 q2 r0 r1 r2 t0 t1 t2; have HS := Lib.hid (keepr_below HS.out bz); have HB := Lib.hid (Base.then_below HB.out bz); have HOM := Lib.hid (own_holds oM); obtain ⟨⟨q0, q1, q2⟩, ⟨r0, r1, r2⟩, t0, t1, t2⟩ := HS.out; clear bz oM HY)
    | (go_at_call 50; refine (HF2.out _ _ _ HOM.out).mono ?_; rintro e wz ⟨vS, rfl, oS, bz⟩; have hsz := bz.size; clear q0 q1 q2 r0 r1 r2 t0 t1 t2; have HS := Lib.hid (keepr_below HS.out bz); have HB := Lib.hid (Base.then_below HB.out bz); have HOS := Lib.hid (own_mono (B' := w.heap.size + 2) oS (by omega)); obtain ⟨⟨q0, q1, q2⟩, ⟨r0, r1, r2⟩, t0, t1, t2⟩ := HS.out; obtain ⟨aS, cS, rfl, _⟩ := Rec.shape_at oS; clear bz oS HOM; try fail))
  all_goals (
    go_wp2
    have hx : ∀ k, Value.ownBlock (.slice aS g.length cS) = some k → w.heap.size + 1 < k := fun k e => by have h9 := (HOS.out.lt k e).1; omega
    have e1 : Value.ownBlock (.slice aS g.length cS) ≠ some (w.heap.size + 1) := fun e => by have := hx _ e; omega
    have HBS := Lib.hid (((HB.out.setCell (p := ⟨w.heap.size + 1, 0, none⟩) (by show w.heap.size ≤ w.heap.size + 1; omega) (.int .i64 c)).setCell (p := ⟨w.heap.size + 1, 1, none⟩) (by show w.heap.size ≤ w.heap.size + 1; omega) (.slice aS g.length cS)).setCell (p := ⟨w.heap.size + 1, 2, none⟩) (by show w.heap.size ≤ w.heap.size + 1; omega) (.string ⟨b.toArray⟩))
    have HOW := Lib.hid (Rec.own_mono (B' := w.heap.size) (ownsRow_setCell_other (a := ⟨w.heap.size + 1, 2, none⟩) (ownsRow_setCell_other (a := ⟨w.heap.size + 1, 1, none⟩) (ownsRow_setCell_other (a := ⟨w.heap.size + 1, 0, none⟩) HOS.out e1 (.int .i64 c)) e1 (.slice aS g.length cS)) e1 (.string ⟨b.toArray⟩)) (by omega))
    refine bodyPost_ret (v := .agg #[.int .i64 c, .slice aS g.length cS, .string ⟨b.toArray⟩]) (by simp [results, Try.results22, go_sem, r0, r1, r2]) rfl ⟨_, rfl, HOW.out, HBS.out⟩)

set_option maxHeartbeats 4000000 in
theorem impl_strip (c : Int) (u : Value) (l : List Fld) (b : List UInt8) (B : Nat) (w : World) (h : Holds w B u l) (hB : B ≤ w.heap.size) (hl : l.length ≤ 1048576) :
    Calls Try.prog 24 #[.agg #[.int .i64 c, u, .string ⟨b.toArray⟩]] w (CopyEnd c (strip l) b w) := by
  have hb0 := (((Below.refl w.heap.size w).alloc (Nat.le_refl _) (.cells #[.int .i64 c, u, .string ⟨b.toArray⟩] 42)).alloc (by simp) (.cells #[.int .i64 0, .slice none 0 0, .string ⟨#[]⟩] 42))
  have HB := Lib.hid hb0
  have HY := Lib.hid (holds_below h (hb0.mono hB))
  have HS : Hid (KeepR c u b w.heap.size (w.heap.size + 1) _) := Lib.hid (keepr_start c u b w)
  have HL : Hid ((keepn ageN l).length ≤ 1048576) := Lib.hid (Nat.le_trans (keepn_le _ _) hl)
  have hdz : ((w.alloc (.cells #[.int .i64 c, u, .string ⟨b.toArray⟩] 42)).alloc (.cells #[.int .i64 0, .slice none 0 0, .string ⟨#[]⟩] 42)).heap.size = w.heap.size + 2 := by simp
  have HF1 := Lib.hid (fun v B W (h : Holds W B v l) (hB : B ≤ W.heap.size) => impl_drop v B l ageN W h hB hl)
  have HF2 := Lib.hid (fun v B W (h : Holds W B v (keepn ageN l)) (hB : B ≤ W.heap.size) => impl_drop v B (keepn ageN l) stampN W h hB HL.out)
  have hst : strip l = keepn stampN (keepn ageN l) := rfl
  rw [← hst] at HF2
  unfold FilterEnd at HF1 HF2
  unfold CopyEnd
  generalize strip l = g at HF2 ⊢
  generalize keepn ageN l = m at HF1 HF2 HL
  unfold ageN at HF1
  unfold stampN at HF2
  clear h hst hb0
  obtain ⟨⟨q0, q1, q2⟩, ⟨r0, r1, r2⟩, t0, t1, t2⟩ := HS.out
  go_enter Try.func24, Try.ntmps24
  go_wp2_with (fail)
  go_at_call 52
  refine (HF1.out _ _ _ HY.out (by omega)).mono ?_
  rintro e wz ⟨vM, rfl, oM, bz⟩
  have hsz := bz.size
  clear q0 q1 q2 r0 r1 r2 t0 t1 t2
  have HS := Lib.hid (keepr_below HS.out bz)
  have HB := Lib.hid (Base.then_below HB.out bz)
  have HOM := Lib.hid (own_holds oM)
  clear bz oM HY
  go_wp2_with (fail)
  go_at_call 52
  refine (HF2.out _ _ _ HOM.out (Nat.le_refl _)).mono ?_
  rintro e wy ⟨vS, rfl, oS, bz⟩
  have hsz2 := bz.size
  have HS := Lib.hid (keepr_below HS.out bz)
  have HB := Lib.hid (Base.then_below HB.out bz)
  have HOS := Lib.hid (own_mono (B' := w.heap.size + 2) oS (by omega))
  obtain ⟨⟨q0, q1, q2⟩, ⟨r0, r1, r2⟩, t0, t1, t2⟩ := HS.out
  obtain ⟨aS, cS, rfl, _⟩ := Rec.shape_at oS
  clear bz oS HOM
  go_wp2
  have hx : ∀ k, Value.ownBlock (.slice aS g.length cS) = some k → w.heap.size + 1 < k := fun k e => by have h9 := (HOS.out.lt k e).1; omega
  have e1 : Value.ownBlock (.slice aS g.length cS) ≠ some (w.heap.size + 1) := fun e => by have := hx _ e; omega
  have HBS := Lib.hid (((HB.out.setCell (p := ⟨w.heap.size + 1, 0, none⟩) (by show w.heap.size ≤ w.heap.size + 1; omega) (.int .i64 c)).setCell (p := ⟨w.heap.size + 1, 1, none⟩) (by show w.heap.size ≤ w.heap.size + 1; omega) (.slice aS g.length cS)).setCell (p := ⟨w.heap.size + 1, 2, none⟩) (by show w.heap.size ≤ w.heap.size + 1; omega) (.string ⟨b.toArray⟩))
  have HOW := Lib.hid (Rec.own_mono (B' := w.heap.size) (ownsRow_setCell_other (a := ⟨w.heap.size + 1, 2, none⟩) (ownsRow_setCell_other (a := ⟨w.heap.size + 1, 1, none⟩) (ownsRow_setCell_other (a := ⟨w.heap.size + 1, 0, none⟩) HOS.out e1 (.int .i64 c)) e1 (.slice aS g.length cS)) e1 (.string ⟨b.toArray⟩)) (by omega))
  refine bodyPost_ret (v := .agg #[.int .i64 c, .slice aS g.length cS, .string ⟨b.toArray⟩]) (by simp [results, Try.results24, go_sem, r0, r1, r2]) rfl ⟨_, rfl, HOW.out, HBS.out⟩
end Go.Proofs.Ytnffoifkinpmpaa.Flds
