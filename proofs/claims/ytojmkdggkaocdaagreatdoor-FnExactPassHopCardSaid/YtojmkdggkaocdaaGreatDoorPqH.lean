/-
  CONTRACTS AND PLAIN FACTS, several texts in one; each says in its own words what it proves.
-/
import Derived.Test.YtojmkdggkaocdaaGreatDoorPqA
import Derived.Test.YtojmkdggkaocdaaGreatDoorPqG
import Derived.LoopTactic
import Derived.Test.YtojmkdggkaocdaaGreatDoorPqE
import Derived.Test.YtojmkdggkaocdaaGreatDoorPqF
import Derived.RegionTactic
import Derived.Deep.RegionWith
import Derived.Lib.SlTrimSet
import Derived.Lib.IndexMore
import Derived.Lib.Join

/-
  CONTRACT of the program's FormatInt: at every integer of 64 bits, where the library's table of powers of ten reads as it is written, it returns the decimal numeral; nothing that was there before is changed.
-/
namespace Go.Proofs.YtojmkdggkaocdaaGreatDoor.Fmt
open Go Go.RowKit
set_option linter.unusedVariables false
set_option maxRecDepth 1000000

/-- The library's table of powers of ten, as it is written. -/
def Tens (w : World) : Prop := Lib.TabIs Tryz.prog w "internal/strconv.uint64pow10" .u64 Lib.pow10Tab
theorem tens_below {W w1 : World} (h : Tens W) (hb : Below W.heap.size W w1) : Tens w1 := Base.var_below h hb

theorem impl_fmt (n : Int) (h0 : -9223372036854775808 ≤ n) (h1 : n ≤ 9223372036854775807) (w : World) (ht : Tens w) :
    Calls Tryz.prog 92 #[.int .i64 n] w fun e w' => e = .returned (.string ⟨(Lib.itoa n).toArray⟩) ∧ Below w.heap.size w w' := by
  go_enter Tryz.func92, Tryz.ntmps92
  go_wp2_with (go_at_call 129; refine (Tryz.strconv_Itoa n h0 h1 _ ht).mono ?_; rintro e w' ⟨rfl, k, os, rfl⟩)
  go_ret
  exact ⟨rfl, Base.below_grow_drewN _ _ _⟩
end Go.Proofs.YtojmkdggkaocdaaGreatDoor.Fmt

/-
  CONTRACTS of the model's Min.
-/
namespace Go.Proofs.YtojmkdggkaocdaaGreatDoor.Mm
theorem ret_int2 {a b : Int} (h : a = b) : Go.Ending.returned (.int .i64 a) = .returned (.int .i64 b) := by rw [h]
open Go Go.RowKit
set_option linter.unusedVariables false
set_option maxRecDepth 1000000
theorem spec_min (a b : Int) (w : World) : Calls Tryz.prog 81 #[.int .i64 a, .int .i64 b] w fun e w' => e = .returned (.int .i64 (min a b)) ∧ w = w' := by
  by_cases h : a ≤ b
  · have HE := Lib.hid (show a = min a b by omega)
    go_enter Tryz.func81, Tryz.ntmps81
    go_wp2
    all_goals go_ret
    all_goals exact ⟨Go.Proofs.YtojmkdggkaocdaaGreatDoor.Mm.ret_int2 (by omega), rfl⟩
  · go_enter Tryz.func81, Tryz.ntmps81
    go_wp2
    all_goals go_ret
    all_goals exact ⟨Go.Proofs.YtojmkdggkaocdaaGreatDoor.Mm.ret_int2 (by omega), rfl⟩
end Go.Proofs.YtojmkdggkaocdaaGreatDoor.Mm

/-
  CONTRACT of the model's Max.
-/
namespace Go.Proofs.YtojmkdggkaocdaaGreatDoor.Mm
open Go Go.RowKit
set_option linter.unusedVariables false
set_option maxRecDepth 1000000
theorem ret_max_spec {a b : Int} (h : a = b) : Ending.returned (.int .i64 a) = .returned (.int .i64 b) := by rw [h]
theorem spec_max (a b : Int) (w : World) : Calls Tryz.prog 80 #[.int .i64 a, .int .i64 b] w fun e w' => e = .returned (.int .i64 (max a b)) ∧ w = w' := by
  by_cases h : b ≤ a
  · go_enter Tryz.func80, Tryz.ntmps80
    go_wp2
    all_goals go_ret
    all_goals exact ⟨ret_max_spec (by omega), rfl⟩
  · go_enter Tryz.func80, Tryz.ntmps80
    go_wp2
    all_goals go_ret
    all_goals exact ⟨ret_max_spec (by omega), rfl⟩
end Go.Proofs.YtojmkdggkaocdaaGreatDoor.Mm

/-
  CONTRACT of the program's clamp.
-/
namespace Go.Proofs.YtojmkdggkaocdaaGreatDoor.Mm
open Go Go.RowKit
set_option linter.unusedVariables false
set_option maxRecDepth 1000000
theorem ret_clp {a b : Int} (h : a = b) : Ending.returned (.int .i64 a) = .returned (.int .i64 b) := by rw [h]
theorem impl_clamp (n lo hi : Int) (w : World) : Calls Tryz.prog 87 #[.int .i64 n, .int .i64 lo, .int .i64 hi] w fun e w' => e = .returned (.int .i64 (min (max n lo) hi)) ∧ w = w' := by
  by_cases h : lo ≤ n <;> by_cases h2 : n ≤ hi <;> by_cases h3 : lo ≤ hi
  all_goals
    go_enter Tryz.func87, Tryz.ntmps87
    go_wp2
    all_goals go_ret
    all_goals exact ⟨ret_clp (by omega), rfl⟩
end Go.Proofs.YtojmkdggkaocdaaGreatDoor.Mm

/-
  CONTRACTS of both sides' WithAge; nothing that was there before is changed.
-/
namespace Go.Proofs.YtojmkdggkaocdaaGreatDoor.Flds
open Go Go.RowKit
set_option linter.unusedVariables false
set_option maxRecDepth 1000000
set_option maxRecDepth 1000000

def agen : List UInt8 := [97, 103, 101]
/-- The fields l with this age. -/
def wag (a : Int) (l : List Fld) : List Fld := fin agen (Lib.itoa (max 0 (min a 2147483648))) l
/-- What the walk reads and writes: the answer in block p, the result in block q. -/
def KeepS (c : Int) (v : Value) (b : List UInt8) (p q : Nat) (u : World) : Prop :=
  (u.cell? ⟨p, 0, none⟩ = some (.int .i64 c) ∧ u.cell? ⟨p, 1, none⟩ = some v ∧ u.cell? ⟨p, 2, none⟩ = some (.string ⟨b.toArray⟩) ∧ u.frozen? ⟨p, 1, none⟩ = false) ∧
  (u.cell? ⟨q, 0, none⟩ = some (.int .i64 0) ∧ u.cell? ⟨q, 1, none⟩ = some (.slice none 0 0) ∧ u.cell? ⟨q, 2, none⟩ = some (.string ⟨#[]⟩)) ∧ u.frozen? ⟨q, 0, none⟩ = false ∧ u.frozen? ⟨q, 1, none⟩ = false ∧ u.frozen? ⟨q, 2, none⟩ = false
theorem keep_below {c : Int} {v : Value} {b : List UInt8} {p q : Nat} {u u' : World} (h : KeepS c v b p q u) (hb : Below u.heap.size u u') : KeepS c v b p q u' := by
  obtain ⟨⟨a0, a1, a2, a3⟩, ⟨b0, b1, b2⟩, c0, c1, c2⟩ := h
  have hp := Rec.lt_of_cell a0
  have hq := Rec.lt_of_cell b0
  exact ⟨⟨(hb.cell (p := ⟨p, 0, none⟩) hp).trans a0, (hb.cell (p := ⟨p, 1, none⟩) hp).trans a1, (hb.cell (p := ⟨p, 2, none⟩) hp).trans a2, (hb.frozen (p := ⟨p, 1, none⟩) hp).trans a3⟩, ⟨(hb.cell (p := ⟨q, 0, none⟩) hq).trans b0, (hb.cell (p := ⟨q, 1, none⟩) hq).trans b1, (hb.cell (p := ⟨q, 2, none⟩) hq).trans b2⟩, (hb.frozen (p := ⟨q, 0, none⟩) hq).trans c0, (hb.frozen (p := ⟨q, 1, none⟩) hq).trans c1, (hb.frozen (p := ⟨q, 2, none⟩) hq).trans c2⟩

set_option maxHeartbeats 4000000 in
theorem spec_wag (c : Int) (u : Value) (l : List Fld) (b : List UInt8) (a : Int) (B : Nat) (w : World) (h : Holds w B u l) (hB : B ≤ w.heap.size) (hl : l.length ≤ 1048576) :
    Calls Tryz.prog 40 #[.agg #[.int .i64 c, u, .string ⟨b.toArray⟩], .int .i64 a] w (CopyEnd c (wag a l) b w) := by
  have HB0 := Lib.hid (((Below.refl w.heap.size w).alloc (Nat.le_refl _) (.cells #[.int .i64 c, u, .string ⟨b.toArray⟩] 30)).alloc (by simp) (.cells #[.int .i64 0, .slice none 0 0, .string ⟨#[]⟩] 30))
  have HS0 := Lib.hid (spec_l11copy c u l b B _ (holds_below h (HB0.out.mono hB)) (Nat.le_trans hB HB0.out.size) hl)
  have HF := Lib.hid (fun W => Fmt.spec_fmt (max 0 (min a 2147483648)) (by omega) (by omega) W)
  have HW : Hid (wag a l = fin agen (Lib.itoa (max 0 (min a 2147483648))) l) := Lib.hid rfl
  unfold CopyEnd at HS0 ⊢
  generalize Lib.itoa (max 0 (min a 2147483648)) = n at HF HW
  have HSF := Lib.hid (fun v B W (h : Holds W B v l) (hB : B ≤ W.heap.size) => spec_set v B l agen n W h hB hl)
  unfold FilterEnd at HSF
  rw [← HW.out] at HSF
  generalize wag a l = g at HSF HW ⊢
  unfold agen at HSF
  clear h
  go_enter Tryz.func40, Tryz.ntmps40
  go_wp2_with (fail)
  go_at_call 37
  refine HS0.out.mono ?_
  rintro e w1 ⟨v, rfl, ho', hb1⟩
  obtain ⟨ad, cap, rfl, _⟩ := Rec.shape_at ho'
  have hk2 := Kept.one hb1
  rw [show (w.alloc (.cells #[.int .i64 c, u, .string ⟨b.toArray⟩] 30)).heap.size = w.heap.size + 1 by simp] at hk2
  have hba : Below w1.heap.size w1 (w1.alloc (.cells #[.int .i64 c, .slice ad l.length cap, .string ⟨b.toArray⟩] 30)) := (Below.refl _ _).alloc (Nat.le_refl _) _
  have hlt : w.heap.size + 1 < w1.heap.size := Rec.lt_of_cell (hk2.1 0 _ rfl)
  have HS : Hid (KeepS c (.slice ad l.length cap) b w1.heap.size (w.heap.size + 1) (w1.alloc (.cells #[.int .i64 c, .slice ad l.length cap, .string ⟨b.toArray⟩] 30)).drew) := Lib.hid ⟨⟨(by rw [World.cell?_alloc_new]; rfl : (w1.alloc (.cells #[.int .i64 c, .slice ad l.length cap, .string ⟨b.toArray⟩] 30)).cell? ⟨w1.heap.size, 0, none⟩ = _), (by rw [World.cell?_alloc_new]; rfl : (w1.alloc (.cells #[.int .i64 c, .slice ad l.length cap, .string ⟨b.toArray⟩] 30)).cell? ⟨w1.heap.size, 1, none⟩ = _), (by rw [World.cell?_alloc_new]; rfl : (w1.alloc (.cells #[.int .i64 c, .slice ad l.length cap, .string ⟨b.toArray⟩] 30)).cell? ⟨w1.heap.size, 2, none⟩ = _), (by simp [go_sem] : (w1.alloc (.cells #[.int .i64 c, .slice ad l.length cap, .string ⟨b.toArray⟩] 30)).frozen? ⟨w1.heap.size, 1, none⟩ = false)⟩,
    ⟨(hba.cell (p := ⟨w.heap.size + 1, 0, none⟩) hlt).trans (hk2.1 0 _ rfl), (hba.cell (p := ⟨w.heap.size + 1, 1, none⟩) hlt).trans (hk2.1 1 _ rfl), (hba.cell (p := ⟨w.heap.size + 1, 2, none⟩) hlt).trans (hk2.1 2 _ rfl)⟩, (hba.frozen (p := ⟨w.heap.size + 1, 0, none⟩) hlt).trans (hk2.2 0), (hba.frozen (p := ⟨w.heap.size + 1, 1, none⟩) hlt).trans (hk2.2 1), (hba.frozen (p := ⟨w.heap.size + 1, 2, none⟩) hlt).trans (hk2.2 2)⟩
  have HY : Hid (Holds (w1.alloc (.cells #[.int .i64 c, .slice ad l.length cap, .string ⟨b.toArray⟩] 30)).drew w1.heap.size (.slice ad l.length cap) l) := Lib.hid (holds_below (own_holds ho') (Rec.below_drew hba))
  have HB := Lib.hid (Rec.below_drew ((HB0.out.trans (hb1.mono HB0.out.size)).alloc (by have := hb1.size; have := HB0.out.size; omega) (.cells #[.int .i64 c, .slice ad l.length cap, .string ⟨b.toArray⟩] 30)))
  have hdz : (w1.alloc (.cells #[.int .i64 c, .slice ad l.length cap, .string ⟨b.toArray⟩] 30)).drew.heap.size = w1.heap.size + 1 := by show (w1.alloc _).heap.size = _; simp
  clear ho' hb1 hk2 hba
  obtain ⟨⟨q0, q1, q2, f1⟩, ⟨r0, r1, r2⟩, t0, t1, t2⟩ := HS.out
  go_wp2
  go_region_with (first
    | (go_at_call 81; refine (Mm.spec_min _ _ _).mono ?_; rintro e wm ⟨rfl, rfl⟩)
    | (go_at_call 80; refine (Mm.spec_max _ _ _).mono ?_; rintro e wm ⟨rfl, rfl⟩)
    | (go_at_call 85; refine (HF.out _).mono ?_; rintro e wq ⟨rfl, bq⟩; have hsq := bq.size; clear q0 q1 q2 f1 r0 r1 r2 t0 t1 t2; have HS := Lib.hid (keep_below HS.out bq); have HY := Lib.hid (holds_below HY.out (bq.mono (by omega))); have HB := Lib.hid (Base.then_below HB.out bq); obtain ⟨⟨q0, q1, q2, f1⟩, ⟨r0, r1, r2⟩, t0, t1, t2⟩ := HS.out; clear bq)
    | (go_at_call 84; refine (HSF.out _ _ _ HY.out (by omega)).mono ?_; rintro e wz ⟨vS, rfl, oS, bz⟩; have hsz := bz.size; clear q0 q1 q2 f1 r0 r1 r2 t0 t1 t2; have HS := Lib.hid (keep_below HS.out bz); have HB := Lib.hid (Base.then_below HB.out bz); have HOS := Lib.hid oS; obtain ⟨⟨q0, q1, q2, f1⟩, ⟨r0, r1, r2⟩, t0, t1, t2⟩ := HS.out; obtain ⟨aS, cS, rfl, _⟩ := Rec.shape_at oS; clear bz oS HY; try fail))
  all_goals (
    go_wp2
    have hx : ∀ k, Value.ownBlock (.slice aS g.length cS) = some k → w1.heap.size < k := fun k e => by have h9 := (HOS.out.lt k e).1; omega
    have e1 : Value.ownBlock (.slice aS g.length cS) ≠ some (w.heap.size + 1) := fun e => by have := hx _ e; omega
    have HBS := Lib.hid ((((HB.out.setCell (p := ⟨w1.heap.size, 1, none⟩) (by show w.heap.size ≤ w1.heap.size; omega) (.slice aS g.length cS)).setCell (p := ⟨w.heap.size + 1, 0, none⟩) (by show w.heap.size ≤ w.heap.size + 1; omega) (.int .i64 c)).setCell (p := ⟨w.heap.size + 1, 1, none⟩) (by show w.heap.size ≤ w.heap.size + 1; omega) (.slice aS g.length cS)).setCell (p := ⟨w.heap.size + 1, 2, none⟩) (by show w.heap.size ≤ w.heap.size + 1; omega) (.string ⟨b.toArray⟩))
    have HOW := Lib.hid (Rec.own_mono (B' := w.heap.size) (ownsRow_setCell_other (a := ⟨w.heap.size + 1, 2, none⟩) (ownsRow_setCell_other (a := ⟨w.heap.size + 1, 1, none⟩) (ownsRow_setCell_other (a := ⟨w.heap.size + 1, 0, none⟩) (ownsRow_setCell_other (a := ⟨w1.heap.size, 1, none⟩) HOS.out (fun e => Nat.lt_irrefl _ (hx _ e)) (.slice aS g.length cS)) e1 (.int .i64 c)) e1 (.slice aS g.length cS)) e1 (.string ⟨b.toArray⟩)) (by omega))
    refine bodyPost_ret (v := .agg #[.int .i64 c, .slice aS g.length cS, .string ⟨b.toArray⟩]) (by simp [results, Tryz.results40, go_sem, r0, r1, r2]) rfl ⟨_, rfl, HOW.out, HBS.out⟩)

set_option maxHeartbeats 4000000 in
theorem impl_wag (c : Int) (u : Value) (l : List Fld) (b : List UInt8) (a : Int) (B : Nat) (w : World) (h : Holds w B u l) (hB : B ≤ w.heap.size) (hl : l.length ≤ 1048576) (hten : Fmt.Tens w) :
    Calls Tryz.prog 47 #[.agg #[.int .i64 c, u, .string ⟨b.toArray⟩], .int .i64 a] w (CopyEnd c (wag a l) b w) := by
  have hb0 := (((Below.refl w.heap.size w).alloc (Nat.le_refl _) (.cells #[.int .i64 c, u, .string ⟨b.toArray⟩] 30)).alloc (by simp) (.cells #[.int .i64 0, .slice none 0 0, .string ⟨#[]⟩] 30))
  have HB0 := Lib.hid hb0
  have HY0 := Lib.hid (fun W (hb : Below w.heap.size w W) => holds_below h (hb.mono hB))
  have HF := Lib.hid (Fmt.impl_fmt (max 0 (min a 2147483648)) (by omega) (by omega) _ (Fmt.tens_below hten hb0))
  have HW : Hid (wag a l = fin agen (Lib.itoa (max 0 (min a 2147483648))) l) := Lib.hid rfl
  have HCL : Hid (min (max a 0) 2147483648 = max 0 (min a 2147483648)) := Lib.hid (by omega)
  unfold CopyEnd
  generalize Lib.itoa (max 0 (min a 2147483648)) = n at HF HW
  have HSF := Lib.hid (fun v B W (h : Holds W B v l) (hB : B ≤ W.heap.size) => impl_set v B l agen n W h hB hl)
  unfold FilterEnd at HSF
  rw [← HW.out] at HSF
  generalize wag a l = g at HSF HW ⊢
  unfold agen at HSF
  clear h hb0
  go_enter Tryz.func47, Tryz.ntmps47
  go_wp2_with (fail)
  go_at_call 87
  refine (Mm.impl_clamp a 0 2147483648 _).mono ?_
  rintro e w0 ⟨rfl, rfl⟩
  rw [HCL.out]
  go_wp2_with (fail)
  go_at_call 92
  refine HF.out.mono ?_
  rintro e w1 ⟨rfl, hb1⟩
  have hk2 := Kept.two hb1
  have hk1 := Kept.one (Kept.below_in hb1)
  have HS : Hid (KeepS c u b w.heap.size (w.heap.size + 1) w1.drew) := Lib.hid ⟨⟨hk1.1 0 _ rfl, hk1.1 1 _ rfl, hk1.1 2 _ rfl, hk1.2 1⟩, ⟨hk2.1 0 _ rfl, hk2.1 1 _ rfl, hk2.1 2 _ rfl⟩, hk2.2 0, hk2.2 1, hk2.2 2⟩
  have hlt : w.heap.size + 1 < w1.heap.size := Rec.lt_of_cell (hk2.1 0 _ rfl)
  have hb2 := HB0.out.trans (hb1.mono HB0.out.size)
  have HY := Lib.hid (HY0.out w1.drew (Rec.below_drew hb2))
  have HB := Lib.hid (Rec.below_drew hb2)
  have hdz : w1.drew.heap.size = w1.heap.size := rfl
  clear hb1 hk2 hk1 hb2
  obtain ⟨⟨q0, q1, q2, f1⟩, ⟨r0, r1, r2⟩, t0, t1, t2⟩ := HS.out
  go_wp2
  go_region_with (first
    | (go_at_call 93; refine (HSF.out _ _ _ HY.out (by omega)).mono ?_; rintro e wz ⟨vS, rfl, oS, bz⟩; have hsz := bz.size; clear q0 q1 q2 f1 r0 r1 r2 t0 t1 t2; have HS := Lib.hid (keep_below HS.out bz); have HB := Lib.hid (Base.then_below HB.out bz); have HOS := Lib.hid oS; obtain ⟨⟨q0, q1, q2, f1⟩, ⟨r0, r1, r2⟩, t0, t1, t2⟩ := HS.out; obtain ⟨aS, cS, rfl, _⟩ := Rec.shape_at oS; clear bz oS HY; try fail))
  all_goals (
    go_wp2
    have hx : ∀ k, Value.ownBlock (.slice aS g.length cS) = some k → w.heap.size + 1 < k := fun k e => by have h9 := (HOS.out.lt k e).1; omega
    have e1 : Value.ownBlock (.slice aS g.length cS) ≠ some (w.heap.size + 1) := fun e => by have := hx _ e; omega
    have HBS := Lib.hid (((HB.out.setCell (p := ⟨w.heap.size + 1, 0, none⟩) (by show w.heap.size ≤ w.heap.size + 1; omega) (.int .i64 c)).setCell (p := ⟨w.heap.size + 1, 1, none⟩) (by show w.heap.size ≤ w.heap.size + 1; omega) (.slice aS g.length cS)).setCell (p := ⟨w.heap.size + 1, 2, none⟩) (by show w.heap.size ≤ w.heap.size + 1; omega) (.string ⟨b.toArray⟩))
    have HOW := Lib.hid (Rec.own_mono (B' := w.heap.size) (ownsRow_setCell_other (a := ⟨w.heap.size + 1, 2, none⟩) (ownsRow_setCell_other (a := ⟨w.heap.size + 1, 1, none⟩) (ownsRow_setCell_other (a := ⟨w.heap.size + 1, 0, none⟩) HOS.out e1 (.int .i64 c)) e1 (.slice aS g.length cS)) e1 (.string ⟨b.toArray⟩)) (by omega))
    refine bodyPost_ret (v := .agg #[.int .i64 c, .slice aS g.length cS, .string ⟨b.toArray⟩]) (by simp [results, Tryz.results47, go_sem, r0, r1, r2]) rfl ⟨_, rfl, HOW.out, HBS.out⟩)
end Go.Proofs.YtojmkdggkaocdaaGreatDoor.Flds

/-
  PLAIN FACTS on texts as lists of bytes: tokens, lower case, blanks at both ends, quoted strings, pairs, lists at commas.
-/
namespace Go.Proofs.YtojmkdggkaocdaaGreatDoor.Tx
open Go
set_option linter.unusedVariables false
set_option maxRecDepth 1000000

/-! tokens -/
def marks : List UInt8 := [33, 35, 36, 37, 38, 39, 42, 43, 45, 46, 94, 95, 124, 126, 96]
def letc (c : UInt8) : Bool := decide (97 ≤ c.toNat ∧ c.toNat ≤ 122) || decide (65 ≤ c.toNat ∧ c.toNat ≤ 90) || decide (48 ≤ c.toNat ∧ c.toNat ≤ 57)
def tokc (c : UInt8) : Bool := marks.contains c || letc c
def token (l : List UInt8) : Bool := l.all tokc && decide (1 ≤ l.length ∧ l.length ≤ 40)

/-! lower case -/
def upc (c : UInt8) : Bool := decide (65 ≤ c.toNat ∧ c.toNat ≤ 90)
def lowc (c : UInt8) : UInt8 := if upc c then c + 32 else c
def lower (l : List UInt8) : List UInt8 := l.map lowc
theorem lowc_up {c : UInt8} (h : upc c = true) : ((lowc c).toNat : Int) = c.toNat + 32 := by
  unfold lowc; rw [if_pos h]
  unfold upc at h; simp at h
  have : (c + 32).toNat = (c.toNat + 32) % 256 := UInt8.toNat_add c 32
  rw [this]; omega
theorem lowc_no {c : UInt8} (h : upc c = false) : lowc c = c := by unfold lowc; simp [h]
theorem upc_low (c : UInt8) : upc (lowc c) = false := by
  by_cases h : upc c = true
  · have e := lowc_up h
    unfold upc at h ⊢; simp at h ⊢; omega
  · rw [lowc_no (by simpa using h)]; simpa using h
theorem lower_lower (l : List UInt8) : lower (lower l) = lower l := by
  unfold lower; rw [List.map_map]
  apply List.map_congr_left; intro c _
  exact lowc_no (upc_low c)

/-! blanks -/
def blk (c : UInt8) : Bool := c == 32 || c == 9
def triml (l : List UInt8) : List UInt8 := l.dropWhile blk
def trimr (l : List UInt8) : List UInt8 := (l.reverse.dropWhile blk).reverse
def trim (l : List UInt8) : List UInt8 := triml (trimr l)
theorem blk_set : (fun b : UInt8 => [32, 9].contains b) = blk := by
  funext b
  unfold blk
  simp only [List.contains, List.elem]
  cases (b == 32) <;> cases (b == 9) <;> rfl
theorem trim_set (l : List UInt8) : Lib.trimS l [32, 9] = trim l := by
  unfold Lib.trimS Lib.trimLeftS Lib.trimRightS trim triml trimr
  rw [show (fun x : UInt8 => [32, 9].contains x) = blk from blk_set]
theorem triml_cons_blk {c : UInt8} {l : List UInt8} (h : blk c = true) : triml (c :: l) = triml l := by unfold triml; rw [List.dropWhile_cons_of_pos h]
theorem triml_cons_no {c : UInt8} {l : List UInt8} (h : blk c = false) : triml (c :: l) = c :: l := by unfold triml; rw [List.dropWhile_cons_of_neg (by simp [h])]
theorem triml_nil : triml [] = [] := rfl
theorem trimr_nil : trimr [] = [] := rfl
theorem trimr_snoc_blk {c : UInt8} {l : List UInt8} (h : blk c = true) : trimr (l ++ [c]) = trimr l := by
  unfold trimr; rw [List.reverse_append]; simp [List.dropWhile_cons_of_pos h]
theorem trimr_snoc_no {c : UInt8} {l : List UInt8} (h : blk c = false) : trimr (l ++ [c]) = l ++ [c] := by
  unfold trimr; rw [List.reverse_append]; simp [List.dropWhile_cons_of_neg (show ¬ blk c = true by simp [h])]
/-- Nothing to trim in front; behind. -/
def Lok (l : List UInt8) : Prop := ∀ c t, l = c :: t → blk c = false
def Rok (l : List UInt8) : Prop := ∀ c t, l = t ++ [c] → blk c = false
theorem triml_lok (l : List UInt8) : Lok (triml l) := by
  induction l with
  | nil => intro c t h; simp [triml] at h
  | cons a r ih =>
    by_cases h : blk a = true
    · rw [triml_cons_blk h]; exact ih
    · rw [triml_cons_no (by simpa using h)]
      intro c t e; injection e with e1 e2; subst e1; simpa using h
theorem triml_of_lok {l : List UInt8} (h : Lok l) : triml l = l := by
  cases l with
  | nil => rfl
  | cons a r => exact triml_cons_no (h a r rfl)
theorem snoc_cases (l : List UInt8) : l = [] ∨ ∃ t c, l = t ++ [c] := by
  rcases List.eq_nil_or_concat l with h | ⟨t, c, h⟩
  · exact Or.inl h
  · exact Or.inr ⟨t, c, by simpa using h⟩
theorem trimr_of_rok {l : List UInt8} (h : Rok l) : trimr l = l := by
  rcases snoc_cases l with rfl | ⟨t, c, rfl⟩
  · rfl
  · exact trimr_snoc_no (h c t rfl)
theorem trimr_rok (l : List UInt8) : Rok (trimr l) := by
  have key : ∀ n (l : List UInt8), l.length = n → Rok (trimr l) := by
    intro n
    induction n with
    | zero => intro l hl; rw [List.length_eq_zero_iff.1 hl]; intro c t e; simp [trimr] at e
    | succ n ih =>
      intro l hl
      rcases snoc_cases l with rfl | ⟨t, c, rfl⟩
      · simp at hl
      · by_cases h : blk c = true
        · rw [trimr_snoc_blk h]; exact ih t (by simp at hl; omega)
        · rw [trimr_snoc_no (by simpa using h)]
          intro c' t' e
          have := List.append_inj_right' e rfl
          simp at this; subst this; simpa using h
  exact key _ l rfl
/-- Taking blanks away in front leaves the end, unless nothing is left. -/
theorem triml_suffix (l : List UInt8) : ∃ p, l = p ++ triml l ∧ ∀ c ∈ p, blk c = true := by
  induction l with
  | nil => exact ⟨[], rfl, by simp⟩
  | cons a r ih =>
    by_cases h : blk a = true
    · rw [triml_cons_blk h]
      obtain ⟨p, e, hp⟩ := ih
      exact ⟨a :: p, by rw [List.cons_append, ← e], by intro c hc; rcases List.mem_cons.1 hc with rfl | hc; exact h; exact hp c hc⟩
    · rw [triml_cons_no (by simpa using h)]; exact ⟨[], rfl, by simp⟩
theorem trimr_prefix (l : List UInt8) : ∃ q, l = trimr l ++ q ∧ ∀ c ∈ q, blk c = true := by
  obtain ⟨p, e, hp⟩ := triml_suffix l.reverse
  refine ⟨p.reverse, ?_, fun c hc => hp c (by simpa using hc)⟩
  have : trimr l = (triml l.reverse).reverse := rfl
  rw [this, ← List.reverse_append, ← e, List.reverse_reverse]
theorem rok_triml {l : List UInt8} (h : Rok l) : Rok (triml l) := by
  intro c t e
  obtain ⟨p, e', _⟩ := triml_suffix l
  rw [e] at e'
  exact h c (p ++ t) (by rw [e', List.append_assoc])
theorem trim_lok (l : List UInt8) : Lok (trim l) := triml_lok _
theorem trim_rok (l : List UInt8) : Rok (trim l) := rok_triml (trimr_rok l)
theorem trim_of_ok {l : List UInt8} (h1 : Lok l) (h2 : Rok l) : trim l = l := by unfold trim; rw [trimr_of_rok h2, triml_of_lok h1]
theorem trim_trim (l : List UInt8) : trim (trim l) = trim l := trim_of_ok (trim_lok l) (trim_rok l)
theorem dw_nil (l : List UInt8) (h : l.dropWhile blk = []) : ∀ c ∈ l, blk c = true := by
  induction l with
  | nil => intro c hc; cases hc
  | cons a r ih =>
    by_cases ha : blk a = true
    · rw [List.dropWhile_cons_of_pos ha] at h
      intro c hc
      rcases List.mem_cons.1 hc with rfl | hc
      · exact ha
      · exact ih h c hc
    · rw [List.dropWhile_cons_of_neg ha] at h; cases h
/-- Both orders give the same. -/
theorem trimr_triml (l : List UInt8) : trimr (triml l) = trim l := by
  have key : ∀ n (l : List UInt8), l.length = n → trimr (triml l) = triml (trimr l) := by
    intro n
    induction n with
    | zero => intro l hl; rw [List.length_eq_zero_iff.1 hl]; rfl
    | succ n ih =>
      intro l hl
      cases l with
      | nil => simp at hl
      | cons a r =>
        by_cases ha : blk a = true
        · rw [triml_cons_blk ha, ih r (by simpa using hl)]
          by_cases hr : ∀ c ∈ r, blk c = true
          · have all_nil : ∀ m : List UInt8, (∀ c ∈ m, blk c = true) → triml m = [] := by
              intro m hm
              induction m with
              | nil => rfl
              | cons x y ih2 => rw [triml_cons_blk (hm x (by simp))]; exact ih2 (fun c hc => hm c (by simp [hc]))
            have t1 : triml (trimr r) = [] := all_nil _ (fun c hc => hr c (by
              obtain ⟨q, e, _⟩ := trimr_prefix r
              rw [e]; exact List.mem_append_left _ hc))
            have t2 : triml (trimr (a :: r)) = [] := all_nil _ (fun c hc => by
              obtain ⟨q, e, _⟩ := trimr_prefix (a :: r)
              have : c ∈ a :: r := by rw [e]; exact List.mem_append_left _ hc
              rcases List.mem_cons.1 this with rfl | h
              · exact ha
              · exact hr c h)
            rw [t1, t2]
          · have e : trimr (a :: r) = a :: trimr r := by
              unfold trimr
              rw [List.reverse_cons]
              have hne : (r.reverse.dropWhile blk) ≠ [] := by
                intro hnil
                apply hr
                intro c hc
                exact dw_nil _ hnil c (by simpa using hc)
              have : (r.reverse ++ [a]).dropWhile blk = r.reverse.dropWhile blk ++ [a] := by
                rw [List.dropWhile_append]
                simp [hne]
              rw [this, List.reverse_append]; rfl
            rw [e, triml_cons_blk ha]
        · have ha' : blk a = false := by simpa using ha
          rw [triml_cons_no ha']
          have e : triml (trimr (a :: r)) = trimr (a :: r) := by
            apply triml_of_lok
            intro c t e
            obtain ⟨q, e', hq⟩ := trimr_prefix (a :: r)
            rw [e] at e'; injection e' with e1 _; subst e1; exact ha'
          rw [e]
  exact key _ l rfl

/-! quoted strings -/
def qot (c : UInt8) : List UInt8 := if c == 34 || c == 92 then [92, c] else [c]
def quo (l : List UInt8) : List UInt8 := 34 :: (l.flatMap qot ++ [34])
/-- What is read behind the first byte; and what stands behind the closing sign. -/
def unq : List UInt8 → List UInt8 × Option (List UInt8)
  | [] => ([], none)
  | [c] => if c == 34 then ([], some []) else ([c], none)
  | c :: d :: r => if c == 34 then ([], some (d :: r)) else if c == 92 then (d :: (unq r).1, (unq r).2) else (c :: (unq (d :: r)).1, (unq (d :: r)).2)
def unqText (l : List UInt8) : List UInt8 := (unq (l.drop 1)).1
def unqOk (l : List UInt8) : Bool := (l.head? == some 34) && ((unq (l.drop 1)).2 == some [])
theorem unq_quote (l r : List UInt8) : unq (l.flatMap qot ++ 34 :: r) = (l, some r) := by
  induction l with
  | nil => cases r <;> simp [unq]
  | cons c t ih =>
    rw [List.flatMap_cons, List.append_assoc]
    by_cases h : c == 34 || c == 92
    · have : qot c = [92, c] := by unfold qot; rw [if_pos h]
      rw [this, List.cons_append, List.cons_append, List.nil_append, unq, if_neg (by decide), if_pos (by decide), ih]
    · have hq : qot c = [c] := by unfold qot; rw [if_neg h]
      rw [hq, List.cons_append, List.nil_append]
      have h34 : ¬ (c == 34) = true := by intro hc; exact h (by simp [hc])
      have h92 : ¬ (c == 92) = true := by intro hc; exact h (by simp [hc])
      cases hx : (t.flatMap qot ++ 34 :: r) with
      | nil => simp at hx
      | cons d u =>
        rw [unq, if_neg h34, if_neg h92, ← hx, ih]
theorem unq_of_quo (l : List UInt8) : unqText (quo l) = l ∧ unqOk (quo l) = true := by
  unfold unqText unqOk quo
  simp [unq_quote l []]

/-! pairs -/
def idx (c : UInt8) : List UInt8 → Nat
  | [] => 0
  | a :: r => if a == c then 0 else idx c r + 1
theorem idx_le (c : UInt8) (l : List UInt8) : idx c l ≤ l.length := by
  induction l with
  | nil => simp [idx]
  | cons a r ih => unfold idx; split <;> simp <;> omega
theorem index_idx (c : UInt8) (l : List UInt8) : Lib.index l [c] = if idx c l < l.length then (idx c l : Int) else -1 := by
  induction l with
  | nil => simp [Lib.index, idx]
  | cons a r ih =>
    unfold Lib.index idx
    by_cases h : a == c
    · have : a = c := by simpa using h
      subst this
      simp [List.isPrefixOf]
    · have hp : List.isPrefixOf [c] (a :: r) = false := by
        have : (c == a) = false := by
          rw [Bool.eq_false_iff]; intro hc; apply h
          have : c = a := by simpa using hc
          subst this; simp
        simp [List.isPrefixOf, this]
      rw [if_neg (by simp [hp]), if_neg h, ih]
      by_cases hl : idx c r < r.length
      · have hn : ((idx c r : Int) == -1) = false := by rw [beq_eq_false_iff_ne]; omega
        rw [if_pos hl, hn, if_neg (by simp), if_pos (by simp; omega)]; omega
      · rw [if_neg hl, if_pos (by decide), if_neg (by simp; omega)]
def cutAt (c : UInt8) (l : List UInt8) : List UInt8 × List UInt8 × Bool :=
  if idx c l < l.length then (l.take (idx c l), l.drop (idx c l + 1), true) else (l, [], false)
theorem cut_at (c : UInt8) (l : List UInt8) : Lib.cut l [c] = cutAt c l := by
  unfold Lib.cut cutAt
  rw [index_idx]
  by_cases h : idx c l < l.length
  · rw [if_pos h, if_pos h, if_pos (by omega)]; simp
  · rw [if_neg h, if_neg h, if_neg (by omega)]
theorem idx_at (c : UInt8) (l : List UInt8) (h : idx c l < l.length) : l[idx c l] = c := by
  induction l with
  | nil => simp at h
  | cons a r ih =>
    unfold idx at h ⊢
    by_cases hc : a == c
    · simp [hc]; simpa using hc
    · simp [hc] at h ⊢; exact ih (by simpa [hc] using h)
theorem idx_before (c : UInt8) (l : List UInt8) (j : Nat) (h : j < idx c l) : ∀ hj : j < l.length, l[j] ≠ c := by
  induction l generalizing j with
  | nil => intro hj; simp at hj
  | cons a r ih =>
    intro hj
    unfold idx at h
    by_cases hc : a == c
    · simp [hc] at h
    · simp [hc] at h
      cases j with
      | zero => simp; simpa using hc
      | succ j => simp; exact ih j (by omega) _
theorem idx_eq {c : UInt8} {l : List UInt8} {k : Nat} (hk : k ≤ l.length) (h1 : ∀ j (hj : j < l.length), j < k → l[j] ≠ c) (h2 : ∀ h : k < l.length, l[k] = c) : idx c l = k := by
  rcases Nat.lt_trichotomy (idx c l) k with h | h | h
  · exact absurd (idx_at c l (by omega)) (h1 _ (by omega) h)
  · exact h
  · have hkl : k < l.length := by have := idx_le c l; omega
    exact absurd (h2 hkl) (idx_before c l k h hkl)
end Go.Proofs.YtojmkdggkaocdaaGreatDoor.Tx
