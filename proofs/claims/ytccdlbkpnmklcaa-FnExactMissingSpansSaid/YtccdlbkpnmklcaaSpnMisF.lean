/-
  CONTRACT of the model's MissingSpans where the list is no set of spans, and both cases together.
-/
import Derived.Test.YtccdlbkpnmklcaaSpnMisS
namespace Go.Proofs.Ytccdlbkpnmklcaa.Spn
open Go Go.RowKit
set_option linter.unusedVariables false

set_option maxHeartbeats 4000000 in
theorem spec_miss_no (v : Value) (B : Nat) (l : List T) (p q : Int) (w : World) (h : Holds w B v l) (hB : B ≤ w.heap.size) (hl : l.length ≤ 1048576) (hset : isSet l = false) :
    Calls Try.prog 30 #[v, .agg #[.int .i64 p, .int .i64 q]] w (Missed (miss l (p, q)) w) := by
  obtain ⟨i0, hi, hz0, hz1, hz2⟩ := info_parts info_r
  have HKS : Hid (miss l (p, q) = addm [] (p, q)) := Lib.hid (by unfold miss keepset; rw [hset]; rfl)
  have hpos : 0 < l.length := by
    cases l with
    | nil => exact absurd hset (by decide)
    | cons _ _ => simp
  have HBA : Hid (Below w.heap.size w (w.alloc (.cells #[.int .i64 p, .int .i64 q] 26))) := Lib.hid ((Below.refl _ _).alloc (Nat.le_refl _) _)
  have HS := Lib.hid (fun W (h : Holds W B v l) (hb : B ≤ W.heap.size) => spec_set v B l W h hb (by omega))
  rw [hset] at HS
  have hbb : Below (w.alloc (.cells #[.int .i64 p, .int .i64 q] 26)).heap.size (w.alloc (.cells #[.int .i64 p, .int .i64 q] 26)) ((w.alloc (.cells #[.int .i64 p, .int .i64 q] 26)).alloc (.cells #[] 26)) := (Below.refl _ _).alloc (Nat.le_refl _) _
  have HB2 := Lib.hid (HBA.out.trans (hbb.mono (by simp)))
  have HY0 := Lib.hid (holds_below h (HB2.out.mono hB))
  obtain ⟨a, cap, rfl, ha⟩ := shape h
  have hO1 : Own ((w.alloc (.cells #[.int .i64 p, .int .i64 q] 26)).alloc (.cells #[] 26)) (w.heap.size + 1) (.slice (some ⟨w.heap.size + 1, 0, none⟩) 0 0) [] := by have h9 := own_lit_nil (w.alloc (.cells #[.int .i64 p, .int .i64 q] 26)); rw [World.size_alloc] at h9; exact h9
  have HO1 := Lib.hid hO1
  have HX2 : Hid (((w.alloc (.cells #[.int .i64 p, .int .i64 q] 26)).alloc (.cells #[] 26)).cell? ⟨w.heap.size, 0, none⟩ = some (.int .i64 p) ∧ ((w.alloc (.cells #[.int .i64 p, .int .i64 q] 26)).alloc (.cells #[] 26)).cell? ⟨w.heap.size, 1, none⟩ = some (.int .i64 q)) := Lib.hid ⟨(hbb.cell (p := ⟨w.heap.size, 0, none⟩) (by simp)).trans (by rw [World.cell?_alloc_new]; rfl), (hbb.cell (p := ⟨w.heap.size, 1, none⟩) (by simp)).trans (by rw [World.cell?_alloc_new]; rfl)⟩
  have HSZ : Hid (B ≤ ((w.alloc (.cells #[.int .i64 p, .int .i64 q] 26)).alloc (.cells #[] 26)).heap.size ∧ w.heap.size + 1 < ((w.alloc (.cells #[.int .i64 p, .int .i64 q] 26)).alloc (.cells #[] 26)).heap.size) := Lib.hid ⟨by simp; omega, by simp⟩
  clear ha h hset hbb hO1
  rw [HKS.out]
  generalize hW0 : (w.alloc (.cells #[.int .i64 p, .int .i64 q] 26)).alloc (.cells #[] 26) = W0 at HO1 HX2 HB2 HY0 HSZ
  have HW0 := Lib.hid hW0
  clear hW0
  go_enter Try.func30, Try.ntmps30
  go_wp2
  go_loopw [5, 6, 7] (fun u at_ i wr => u = .slice (some ⟨w.heap.size + 1, 0, none⟩) 0 0 ∧ at_ = .int .i64 p ∧ i = .int .i64 0 ∧ wr = W0) (fun _ _ _ _ => 0)
  case atStart => exact ⟨rfl, rfl, rfl, HW0.out⟩
  case round =>
    obtain ⟨rfl, rfl, rfl, rfl⟩ := hrel
    have HSS := Lib.hid (HS.out wr HY0.out HSZ.out.1)
    go_wp2_with (fail)
    go_at_call 15
    refine HSS.out.mono ?_
    rintro e w1 ⟨rfl, hb1⟩
    have hwz := HSZ.out.2
    have x0 : w1.cell? ⟨w.heap.size, 0, none⟩ = some (.int .i64 p) := (hb1.cell (p := ⟨w.heap.size, 0, none⟩) (by show w.heap.size < _; omega)).trans HX2.out.1
    have x1 : w1.cell? ⟨w.heap.size, 1, none⟩ = some (.int .i64 q) := (hb1.cell (p := ⟨w.heap.size, 1, none⟩) (by show w.heap.size < _; omega)).trans HX2.out.2
    have hown : Own w1 (w.heap.size + 1) (.slice (some ⟨w.heap.size + 1, 0, none⟩) 0 0) [] := row_below HO1.out hb1
    have hs1 : w.heap.size + 1 < w1.heap.size := by have := hb1.size; omega
    have HB := Lib.hid (Base.then_below HB2.out hb1)
    have HBW : Hid (Below w.heap.size w (w1.alloc (.cells #[.int .i64 p, .int .i64 q] 26))) := Lib.hid (HB.out.alloc HB.out.size _)
    clear hb1
    by_cases h1 : p < q
    · have HE : Hid (addm [] (p, q) = [(p, q)]) := Lib.hid (addm_yes h1)
      have d1 : decide (p < q) = true := by simpa using h1
      go_wp2_with (at_builtin; refine wpList_append_own _ rfl (.tmp 58) (.tmp 63) 24 rfl (w.heap.size + 1) 26 i0 (.agg #[.int .i64 0, .int .i64 0]) 2 16 Try.underlying24 hi hz0 hz1 hz2 rfl (by decide) (.slice (some ⟨w.heap.size + 1, 0, none⟩) 0 0) 0 [] rfl (hown.alloc _) ⟨w1.heap.size, 0, none⟩ 1 1 [.int .i64 p, .int .i64 q] rfl rfl (Rec.news _ _ _) (cs_one (p, q)) (by decide) (by decide) (by simp; omega) ?_; intro v1 w2 hown1 hg1 _)
      have HO : Hid (Own w2 w.heap.size v1 [(p, q)]) := Lib.hid (own_mono hown1 (Nat.le_succ _))
      have HBB := Lib.hid (HBW.out.grown hg1 HBW.out.size (fun k e => by (have e2 : w.heap.size + 1 = k := by simpa [Value.ownBlock] using e); omega))
      clear hown hown1 hg1
      go_wp2
      go_ret
      exact ⟨_, rfl, by rw [HE.out]; exact HO.out, HBB.out⟩
    · have HE : Hid (addm [] (p, q) = []) := Lib.hid (addm_no h1)
      have d1 : decide (p < q) = false := by simpa using h1
      have HO := Lib.hid (own_mono hown (Nat.le_succ _))
      clear hown
      go_wp2
      go_ret
      exact ⟨_, rfl, by rw [HE.out]; exact HO.out, HB.out⟩

theorem spec_miss (v : Value) (B : Nat) (l : List T) (p q : Int) (w : World) (h : Holds w B v l) (hB : B ≤ w.heap.size) (hl : l.length ≤ 1048576) :
    Calls Try.prog 30 #[v, .agg #[.int .i64 p, .int .i64 q]] w (Missed (miss l (p, q)) w) := by
  cases hs : isSet l with
  | true => exact spec_miss_yes v B l p q w h hB hl hs
  | false => exact spec_miss_no v B l p q w h hB hl hs
end Go.Proofs.Ytccdlbkpnmklcaa.Spn
