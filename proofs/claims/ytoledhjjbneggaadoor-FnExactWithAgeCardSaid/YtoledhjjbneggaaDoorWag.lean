/-
  CONTRACTS of both sides' WithAge; nothing that was there before is changed.
-/
import Derived.Test.YtoledhjjbneggaaDoorCpyS
import Derived.Test.YtoledhjjbneggaaDoorFldSetS
import Derived.Test.YtoledhjjbneggaaDoorFldSetI
import Derived.Test.YtoledhjjbneggaaDoorFmtSpec
import Derived.Test.YtoledhjjbneggaaDoorFmtImpl
import Derived.Test.YtoledhjjbneggaaDoorMinS
import Derived.Test.YtoledhjjbneggaaDoorMaxS
import Derived.Test.YtoledhjjbneggaaDoorClp
import Derived.RegionTactic
import Derived.Deep.RegionWith
namespace Go.Proofs.YtoledhjjbneggaaDoor.Flds
open Go Go.RowKit
set_option linter.unusedVariables false
set_option maxRecDepth 1000000

def agen : List UInt8 := [97, 103, 101]
/-- The fields l with this age. -/
def wag (a : Int) (l : List Fld) : List Fld := fin agen (Lib.itoa (max 0 (min a 2147483648))) l
/-- What the walk reads and writes: the answer in block p, the result in block q. -/
def KeepS (c : Int) (v : Value) (b : List UInt8) (p q : Nat) (u : World) : Prop :=
  (u.cell? ⟨p, 0, none⟩ = some (.int .i64 c) ∧ u.cell? ⟨p, 1, none⟩ = some v ∧ u.cell? ⟨p, 2, none⟩ = some (.string ⟨b.toArray⟩) ∧ u.frozen? ⟨p, 1, none⟩ = false) ∧
  (u.cell? ⟨q, 0, none⟩ = some (.int .i64 0) ∧ u.cell? ⟨q, 1, none⟩ = some (.slice none 0 0) ∧ u.cell? ⟨q, 2, none⟩ = some (.string ⟨#[]⟩)) ∧ u.frozen? ⟨q, 0, none⟩ = false ∧ u.frozen? ⟨q, 1, none⟩ = false ∧ u.frozen? ⟨q, 2, none⟩ = false
theorem keep_below {c : Int} {v : Value} {b : List UInt8} {p q : Nat} {u u' : World} (h : KeepS c v b p q u) (hb : Below u.heap.size u u') : KeepS c v b p q u' := by
  obtain ⟨⟨a0, a1, a2, a3⟩, ⟨b0, b1, b2⟩, c0, c1, c2⟩ := h
  have hp := Rec.lt_of_cell a0
  have hq := Rec.lt_of_cell b0
  exact ⟨⟨(hb.cell (p := ⟨p, 0, none⟩) hp).trans a0, (hb.cell (p := ⟨p, 1, none⟩) hp).trans a1, (hb.cell (p := ⟨p, 2, none⟩) hp).trans a2, (hb.frozen (p := ⟨p, 1, none⟩) hp).trans a3⟩, ⟨(hb.cell (p := ⟨q, 0, none⟩) hq).trans b0, (hb.cell (p := ⟨q, 1, none⟩) hq).trans b1, (hb.cell (p := ⟨q, 2, none⟩) hq).trans b2⟩, (hb.frozen (p := ⟨q, 0, none⟩) hq).trans c0, (hb.frozen (p := ⟨q, 1, none⟩) hq).trans c1, (hb.frozen (p := ⟨q, 2, none⟩) hq).trans c2⟩

set_option maxHeartbeats 4000000 in
theorem spec_wag (c : Int) (u : Value) (l : List Fld) (b : List UInt8) (a : Int) (B : Nat) (w : World) (h : Holds w B u l) (hB : B ≤ w.heap.size) (hl : l.length ≤ 1048576) :
    Calls Tryd.prog 14 #[.agg #[.int .i64 c, u, .string ⟨b.toArray⟩], .int .i64 a] w (CopyEnd c (wag a l) b w) := by
  have HB0 := Lib.hid (((Below.refl w.heap.size w).alloc (Nat.le_refl _) (.cells #[.int .i64 c, u, .string ⟨b.toArray⟩] 34)).alloc (by simp) (.cells #[.int .i64 0, .slice none 0 0, .string ⟨#[]⟩] 34))
  have HS0 := Lib.hid (spec_l11copy c u l b B _ (holds_below h (HB0.out.mono hB)) (Nat.le_trans hB HB0.out.size) hl)
  have HF := Lib.hid (fun W => Fmt.spec_fmt (max 0 (min a 2147483648)) (by omega) (by omega) W)
  have HW : Hid (wag a l = fin agen (Lib.itoa (max 0 (min a 2147483648))) l) := Lib.hid rfl
  unfold CopyEnd at HS0 ⊢
  generalize Lib.itoa (max 0 (min a 2147483648)) = n at HF HW
  have HSF := Lib.hid (fun v B W (h : Holds W B v l) (hB : B ≤ W.heap.size) => spec_set v B l agen n W h hB hl)
  unfold FilterEnd at HSF
  rw [← HW.out] at HSF
  generalize wag a l = g at HSF HW ⊢
  unfold agen at HSF
  clear h
  go_enter Tryd.func14, Tryd.ntmps14
  go_wp2_with (fail)
  go_at_call 29
  refine HS0.out.mono ?_
  rintro e w1 ⟨v, rfl, ho', hb1⟩
  obtain ⟨ad, cap, rfl, _⟩ := Rec.shape_at ho'
  have hk2 := Kept.one hb1
  rw [show (w.alloc (.cells #[.int .i64 c, u, .string ⟨b.toArray⟩] 34)).heap.size = w.heap.size + 1 by simp] at hk2
  have hba : Below w1.heap.size w1 (w1.alloc (.cells #[.int .i64 c, .slice ad l.length cap, .string ⟨b.toArray⟩] 34)) := (Below.refl _ _).alloc (Nat.le_refl _) _
  have hlt : w.heap.size + 1 < w1.heap.size := Rec.lt_of_cell (hk2.1 0 _ rfl)
  have HS : Hid (KeepS c (.slice ad l.length cap) b w1.heap.size (w.heap.size + 1) (w1.alloc (.cells #[.int .i64 c, .slice ad l.length cap, .string ⟨b.toArray⟩] 34)).drew) := Lib.hid ⟨⟨(by rw [World.cell?_alloc_new]; rfl : (w1.alloc (.cells #[.int .i64 c, .slice ad l.length cap, .string ⟨b.toArray⟩] 34)).cell? ⟨w1.heap.size, 0, none⟩ = _), (by rw [World.cell?_alloc_new]; rfl : (w1.alloc (.cells #[.int .i64 c, .slice ad l.length cap, .string ⟨b.toArray⟩] 34)).cell? ⟨w1.heap.size, 1, none⟩ = _), (by rw [World.cell?_alloc_new]; rfl : (w1.alloc (.cells #[.int .i64 c, .slice ad l.length cap, .string ⟨b.toArray⟩] 34)).cell? ⟨w1.heap.size, 2, none⟩ = _), (by simp [go_sem] : (w1.alloc (.cells #[.int .i64 c, .slice ad l.length cap, .string ⟨b.toArray⟩] 34)).frozen? ⟨w1.heap.size, 1, none⟩ = false)⟩,
    ⟨(hba.cell (p := ⟨w.heap.size + 1, 0, none⟩) hlt).trans (hk2.1 0 _ rfl), (hba.cell (p := ⟨w.heap.size + 1, 1, none⟩) hlt).trans (hk2.1 1 _ rfl), (hba.cell (p := ⟨w.heap.size + 1, 2, none⟩) hlt).trans (hk2.1 2 _ rfl)⟩, (hba.frozen (p := ⟨w.heap.size + 1, 0, none⟩) hlt).trans (hk2.2 0), (hba.frozen (p := ⟨w.heap.size + 1, 1, none⟩) hlt).trans (hk2.2 1), (hba.frozen (p := ⟨w.heap.size + 1, 2, none⟩) hlt).trans (hk2.2 2)⟩
  have HY : Hid (Holds (w1.alloc (.cells #[.int .i64 c, .slice ad l.length cap, .string ⟨b.toArray⟩] 34)).drew w1.heap.size (.slice ad l.length cap) l) := Lib.hid (holds_below (own_holds ho') (Rec.below_drew hba))
  have HB := Lib.hid (Rec.below_drew ((HB0.out.trans (hb1.mono HB0.out.size)).alloc (by have := hb1.size; have := HB0.out.size; omega) (.cells #[.int .i64 c, .slice ad l.length cap, .string ⟨b.toArray⟩] 34)))
  have hdz : (w1.alloc (.cells #[.int .i64 c, .slice ad l.length cap, .string ⟨b.toArray⟩] 34)).drew.heap.size = w1.heap.size + 1 := by show (w1.alloc _).heap.size = _; simp
  clear ho' hb1 hk2 hba
  obtain ⟨⟨q0, q1, q2, f1⟩, ⟨r0, r1, r2⟩, t0, t1, t2⟩ := HS.out
  go_wp2
  go_region_with (first
    | (go_at_call 23; refine (Mm.spec_min _ _ _).mono ?_; rintro e wm ⟨rfl, rfl⟩)
    | (go_at_call 31; refine (Mm.spec_max _ _ _).mono ?_; rintro e wm ⟨rfl, rfl⟩)
    | (go_at_call 18; refine (HF.out _).mono ?_; rintro e wq ⟨rfl, bq⟩; have hsq := bq.size; clear q0 q1 q2 f1 r0 r1 r2 t0 t1 t2; have HS := Lib.hid (keep_below HS.out bq); have HY := Lib.hid (holds_below HY.out (bq.mono (by omega))); have HB := Lib.hid (Base.then_below HB.out bq); obtain ⟨⟨q0, q1, q2, f1⟩, ⟨r0, r1, r2⟩, t0, t1, t2⟩ := HS.out; clear bq)
    | (go_at_call 30; refine (HSF.out _ _ _ HY.out (by omega)).mono ?_; rintro e wz ⟨vS, rfl, oS, bz⟩; have hsz := bz.size; clear q0 q1 q2 f1 r0 r1 r2 t0 t1 t2; have HS := Lib.hid (keep_below HS.out bz); have HB := Lib.hid (Base.then_below HB.out bz); have HOS := Lib.hid oS; obtain ⟨⟨q0, q1, q2, f1⟩, ⟨r0, r1, r2⟩, t0, t1, t2⟩ := HS.out; obtain ⟨aS, cS, rfl, _⟩ := Rec.shape_at oS; clear bz oS HY; try fail))
  all_goals (
    go_wp2
    have hx : ∀ k, Value.ownBlock (.slice aS g.length cS) = some k → w1.heap.size < k := fun k e => by have h9 := (HOS.out.lt k e).1; omega
    have e1 : Value.ownBlock (.slice aS g.length cS) ≠ some (w.heap.size + 1) := fun e => by have := hx _ e; omega
    have HBS := Lib.hid ((((HB.out.setCell (p := ⟨w1.heap.size, 1, none⟩) (by show w.heap.size ≤ w1.heap.size; omega) (.slice aS g.length cS)).setCell (p := ⟨w.heap.size + 1, 0, none⟩) (by show w.heap.size ≤ w.heap.size + 1; omega) (.int .i64 c)).setCell (p := ⟨w.heap.size + 1, 1, none⟩) (by show w.heap.size ≤ w.heap.size + 1; omega) (.slice aS g.length cS)).setCell (p := ⟨w.heap.size + 1, 2, none⟩) (by show w.heap.size ≤ w.heap.size + 1; omega) (.string ⟨b.toArray⟩))
    have HOW := Lib.hid (Rec.own_mono (B' := w.heap.size) (ownsRow_setCell_other (a := ⟨w.heap.size + 1, 2, none⟩) (ownsRow_setCell_other (a := ⟨w.heap.size + 1, 1, none⟩) (ownsRow_setCell_other (a := ⟨w.heap.size + 1, 0, none⟩) (ownsRow_setCell_other (a := ⟨w1.heap.size, 1, none⟩) HOS.out (fun e => Nat.lt_irrefl _ (hx _ e)) (.slice aS g.length cS)) e1 (.int .i64 c)) e1 (.slice aS g.length cS)) e1 (.string ⟨b.toArray⟩)) (by omega))
    refine bodyPost_ret (v := .agg #[.int .i64 c, .slice aS g.length cS, .string ⟨b.toArray⟩]) (by simp [results, Tryd.results14, go_sem, r0, r1, r2]) rfl ⟨_, rfl, HOW.out, HBS.out⟩)

set_option maxHeartbeats 4000000 in
theorem impl_wag (c : Int) (u : Value) (l : List Fld) (b : List UInt8) (a : Int) (B : Nat) (w : World) (h : Holds w B u l) (hB : B ≤ w.heap.size) (hl : l.length ≤ 1048576) (hten : Fmt.Tens w) :
    Calls Tryd.prog 15 #[.agg #[.int .i64 c, u, .string ⟨b.toArray⟩], .int .i64 a] w (CopyEnd c (wag a l) b w) := by
  have hb0 := (((Below.refl w.heap.size w).alloc (Nat.le_refl _) (.cells #[.int .i64 c, u, .string ⟨b.toArray⟩] 34)).alloc (by simp) (.cells #[.int .i64 0, .slice none 0 0, .string ⟨#[]⟩] 34))
  have HB0 := Lib.hid hb0
  have HY0 := Lib.hid (fun W (hb : Below w.heap.size w W) => holds_below h (hb.mono hB))
  have HF := Lib.hid (Fmt.impl_fmt (max 0 (min a 2147483648)) (by omega) (by omega) _ (Fmt.tens_below hten hb0))
  have HW : Hid (wag a l = fin agen (Lib.itoa (max 0 (min a 2147483648))) l) := Lib.hid rfl
  have HCL : Hid (min (max a 0) 2147483648 = max 0 (min a 2147483648)) := Lib.hid (by omega)
  unfold CopyEnd
  generalize Lib.itoa (max 0 (min a 2147483648)) = n at HF HW
  have HSF := Lib.hid (fun v B W (h : Holds W B v l) (hB : B ≤ W.heap.size) => impl_set v B l agen n W h hB hl)
  unfold FilterEnd at HSF
  rw [← HW.out] at HSF
  generalize wag a l = g at HSF HW ⊢
  unfold agen at HSF
  clear h hb0
  go_enter Tryd.func15, Tryd.ntmps15
  go_wp2_with (fail)
  go_at_call 27
  refine (Mm.impl_clamp a 0 2147483648 _).mono ?_
  rintro e w0 ⟨rfl, rfl⟩
  rw [HCL.out]
  go_wp2_with (fail)
  go_at_call 19
  refine HF.out.mono ?_
  rintro e w1 ⟨rfl, hb1⟩
  have hk2 := Kept.two hb1
  have hk1 := Kept.one (Kept.below_in hb1)
  have HS : Hid (KeepS c u b w.heap.size (w.heap.size + 1) w1.drew) := Lib.hid ⟨⟨hk1.1 0 _ rfl, hk1.1 1 _ rfl, hk1.1 2 _ rfl, hk1.2 1⟩, ⟨hk2.1 0 _ rfl, hk2.1 1 _ rfl, hk2.1 2 _ rfl⟩, hk2.2 0, hk2.2 1, hk2.2 2⟩
  have hlt : w.heap.size + 1 < w1.heap.size := Rec.lt_of_cell (hk2.1 0 _ rfl)
  have hb2 := HB0.out.trans (hb1.mono HB0.out.size)
  have HY := Lib.hid (HY0.out w1.drew (Rec.below_drew hb2))
  have HB := Lib.hid (Rec.below_drew hb2)
  have hdz : w1.drew.heap.size = w1.heap.size := rfl
  clear hb1 hk2 hk1 hb2
  obtain ⟨⟨q0, q1, q2, f1⟩, ⟨r0, r1, r2⟩, t0, t1, t2⟩ := HS.out
  go_wp2
  go_region_with (first
    | (go_at_call 32; refine (HSF.out _ _ _ HY.out (by omega)).mono ?_; rintro e wz ⟨vS, rfl, oS, bz⟩; have hsz := bz.size; clear q0 q1 q2 f1 r0 r1 r2 t0 t1 t2; have HS := Lib.hid (keep_below HS.out bz); have HB := Lib.hid (Base.then_below HB.out bz); have HOS := Lib.hid oS; obtain ⟨⟨q0, q1, q2, f1⟩, ⟨r0, r1, r2⟩, t0, t1, t2⟩ := HS.out; obtain ⟨aS, cS, rfl, _⟩ := Rec.shape_at oS; clear bz oS HY; try fail))
  all_goals (
    go_wp2
    have hx : ∀ k, Value.ownBlock (.slice aS g.length cS) = some k → w.heap.size + 1 < k := fun k e => by have h9 := (HOS.out.lt k e).1; omega
    have e1 : Value.ownBlock (.slice aS g.length cS) ≠ some (w.heap.size + 1) := fun e => by have := hx _ e; omega
    have HBS := Lib.hid (((HB.out.setCell (p := ⟨w.heap.size + 1, 0, none⟩) (by show w.heap.size ≤ w.heap.size + 1; omega) (.int .i64 c)).setCell (p := ⟨w.heap.size + 1, 1, none⟩) (by show w.heap.size ≤ w.heap.size + 1; omega) (.slice aS g.length cS)).setCell (p := ⟨w.heap.size + 1, 2, none⟩) (by show w.heap.size ≤ w.heap.size + 1; omega) (.string ⟨b.toArray⟩))
    have HOW := Lib.hid (Rec.own_mono (B' := w.heap.size) (ownsRow_setCell_other (a := ⟨w.heap.size + 1, 2, none⟩) (ownsRow_setCell_other (a := ⟨w.heap.size + 1, 1, none⟩) (ownsRow_setCell_other (a := ⟨w.heap.size + 1, 0, none⟩) HOS.out e1 (.int .i64 c)) e1 (.slice aS g.length cS)) e1 (.string ⟨b.toArray⟩)) (by omega))
    refine bodyPost_ret (v := .agg #[.int .i64 c, .slice aS g.length cS, .string ⟨b.toArray⟩]) (by simp [results, Tryd.results15, go_sem, r0, r1, r2]) rfl ⟨_, rfl, HOW.out, HBS.out⟩)
end Go.Proofs.YtoledhjjbneggaaDoor.Flds
