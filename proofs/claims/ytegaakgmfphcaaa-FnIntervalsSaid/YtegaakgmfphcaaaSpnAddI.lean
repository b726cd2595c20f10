/-
  CONTRACT of the program's AddSpan: the set with the span, in memory of its own; nothing that was there before is changed.
-/
import Derived.Test.YtegaakgmfphcaaaSpnIsI
import Derived.Test.YtegaakgmfphcaaaSpnJn
import Derived.Test.YtegaakgmfphcaaaRecApp
namespace Go.Proofs.Ytegaakgmfphcaaa.Spn
open Go Go.RowKit
set_option linter.unusedVariables false
set_option maxRecDepth 1000000

def Got (l : List T) (w : World) (e : Ending) (w' : World) : Prop := ∃ v, e = .returned v ∧ Own w' w.heap.size v l ∧ Below w.heap.size w w'
theorem lit_one (w : World) (x y : Int) : Own (w.alloc (.cells #[.int .i64 x, .int .i64 y] 26)) w.heap.size (.slice (some ⟨w.heap.size, 0, none⟩) 1 1) [(x, y)] := World.ownsRow_lit w #[.int .i64 x, .int .i64 y] 1 (Nat.le_refl _) (by decide) rfl
theorem add_len (l : List T) (x : T) : (add l x).length ≤ 2 * l.length + 1 := by
  unfold add; split
  · exact res_len l x
  · omega

set_option maxHeartbeats 4000000 in
theorem impl_add (v : Value) (B : Nat) (l : List T) (x y : Int) (w : World) (h : Holds w B v l) (hB : B ≤ w.heap.size) (hl : l.length ≤ 2097152) :
    Calls Try.prog 6 #[v, .agg #[.int .i64 x, .int .i64 y]] w (Got (add l (x, y)) w) := by
  obtain ⟨i0, hi, hz0, hz1, hz2⟩ := info_parts info_r
  have HBA : Hid (Below w.heap.size w (w.alloc (.cells #[.int .i64 x, .int .i64 y] 26))) := Lib.hid ((Below.refl _ _).alloc (Nat.le_refl _) _)
  have HX : Hid ((w.alloc (.cells #[.int .i64 x, .int .i64 y] 26)).cell? ⟨w.heap.size, 0, none⟩ = some (.int .i64 x) ∧ (w.alloc (.cells #[.int .i64 x, .int .i64 y] 26)).cell? ⟨w.heap.size, 1, none⟩ = some (.int .i64 y)) := Lib.hid ⟨by rw [World.cell?_alloc_new]; rfl, by rw [World.cell?_alloc_new]; rfl⟩
  have HS := Lib.hid (fun W (h : Holds W B v l) (hb : B ≤ W.heap.size) => impl_set v B l W h hb (by omega))
  have HC := Lib.hid (can_be x y)
  have HY0 := Lib.hid h
  have HY := Lib.hid (holds_below h (HBA.out.mono hB))
  clear h
  cases hset : isSet l with
  | false =>
    have HE : Hid (add l (x, y) = l) := Lib.hid (add_no (by rw [hset]; rfl))
    rw [hset] at HS
    rw [HE.out]
    clear hset HC
    go_enter Try.func6, Try.ntmps6
    go_wp2_with (fail)
    go_at_call 14
    refine (HS.out _ HY.out (Nat.le_trans hB HBA.out.size)).mono ?_
    rintro e w1 ⟨rfl, hb1⟩
    have HB := Lib.hid (HBA.out.trans (hb1.mono (by simp)))
    clear hb1
    have hmw := holds_below HY0.out ((HB.out.alloc HB.out.size (.cells #[] 26)).mono hB)
    have hown := own_mono (own_lit_nil w1) HB.out.size
    have HB := Lib.hid (HB.out.alloc HB.out.size (.cells #[] 26))
    have hbz := HB.out.size
    go_wp2_with (at_builtin; go_loud (refine Rec.append_holds (l := []) cs_len cs_one rfl (.tmp 13) (.tmp 14) 24 26 rfl Try.underlying24 hi hz0 hz1 hz2 rfl (by decide) rfl rfl hown hmw (by unfold maxLen; simp; omega) (by simp; omega) hbz ?_; intro v1 w3 hown1 hg1))
    have HO : Hid (Own w3 w.heap.size v1 l) := Lib.hid hown1
    have HB := Lib.hid (HB.out.grown hg1 HB.out.size (fun k e => (hown.lt k e).1))
    clear hown hown1 hg1 hmw hbz
    go_wp2
    go_ret
    exact ⟨_, rfl, HO.out, HB.out⟩
  | true =>
    rw [hset] at HS
    cases hcan : can (x, y) with
    | false =>
      have HE : Hid (add l (x, y) = l) := Lib.hid (add_no (by rw [hcan, Bool.and_false]))
      rw [hcan] at HC
      rw [HE.out]
      clear hset hcan
      go_enter Try.func6, Try.ntmps6
      go_wp2_with (fail)
      go_at_call 14
      refine (HS.out _ HY.out (Nat.le_trans hB HBA.out.size)).mono ?_
      rintro e w1 ⟨rfl, hb1⟩
      have HB := Lib.hid (HBA.out.trans (hb1.mono (by simp)))
      have bx0 := (hb1.cell (p := ⟨w.heap.size, 0, none⟩) (by simp)).trans HX.out.1
      have bx1 := (hb1.cell (p := ⟨w.heap.size, 1, none⟩) (by simp)).trans HX.out.2
      have hw1 : w.heap.size < w1.heap.size := Rec.lt_of_cell bx0
      clear hb1
      go_wp2_with (fail)
      go_at_call 21
      refine (HC.out _).mono ?_
      rintro e w2 ⟨rfl, hb2⟩
      have bx0 := (hb2.cell (p := ⟨w.heap.size, 0, none⟩) hw1).trans bx0
      have bx1 := (hb2.cell (p := ⟨w.heap.size, 1, none⟩) hw1).trans bx1
      have HB := Lib.hid (Base.then_below HB.out hb2)
      have HB2 := HB
      clear hb2 hw1
      clear bx0 bx1
      have hmw := holds_below HY0.out ((HB.out.alloc HB.out.size (.cells #[] 26)).mono hB)
      have hown := own_mono (own_lit_nil w2) HB.out.size
      have HB := Lib.hid (HB.out.alloc HB.out.size (.cells #[] 26))
      have hbz := HB.out.size
      go_wp2_with (at_builtin; go_loud (refine Rec.append_holds (l := []) cs_len cs_one rfl (.tmp 13) (.tmp 14) 24 26 rfl Try.underlying24 hi hz0 hz1 hz2 rfl (by decide) rfl rfl hown hmw (by unfold maxLen; simp; omega) (by simp; omega) hbz ?_; intro v1 w3 hown1 hg1))
      have HO : Hid (Own w3 w.heap.size v1 l) := Lib.hid hown1
      have HB := Lib.hid (HB.out.grown hg1 HB.out.size (fun k e => (hown.lt k e).1))
      clear hown hown1 hg1 hmw hbz
      go_wp2
      go_ret
      exact ⟨_, rfl, HO.out, HB.out⟩
    | true =>
      have HJ := Lib.hid (fun d (hp : d.Perm ((x, y) :: l)) (hs : sorted d) => add_join (l := l) (x := (x, y)) hset hcan hp hs)
      rw [hcan] at HC
      clear hset hcan
      go_enter Try.func6, Try.ntmps6
      go_wp2_with (fail)
      go_at_call 14
      refine (HS.out _ HY.out (Nat.le_trans hB HBA.out.size)).mono ?_
      rintro e w1 ⟨rfl, hb1⟩
      have HB := Lib.hid (HBA.out.trans (hb1.mono (by simp)))
      have bx0 := (hb1.cell (p := ⟨w.heap.size, 0, none⟩) (by simp)).trans HX.out.1
      have bx1 := (hb1.cell (p := ⟨w.heap.size, 1, none⟩) (by simp)).trans HX.out.2
      have hw1 : w.heap.size < w1.heap.size := Rec.lt_of_cell bx0
      clear hb1
      go_wp2_with (fail)
      go_at_call 21
      refine (HC.out _).mono ?_
      rintro e w2 ⟨rfl, hb2⟩
      have bx0 := (hb2.cell (p := ⟨w.heap.size, 0, none⟩) hw1).trans bx0
      have bx1 := (hb2.cell (p := ⟨w.heap.size, 1, none⟩) hw1).trans bx1
      have HB := Lib.hid (Base.then_below HB.out hb2)
      have HB2 := HB
      clear hb2 hw1
      have HY := Lib.hid (holds_below HY0.out (HB.out.mono hB))
      have HB := Lib.hid (HB.out.alloc HB.out.size (.cells #[.int .i64 x, .int .i64 y] 26))
      have hown := own_mono (lit_one w2 x y) (by have := HB2.out.size; exact this : w.heap.size ≤ w2.heap.size)
      have hm := holds_below HY.out ((Below.refl w2.heap.size w2).alloc (Nat.le_refl _) (.cells #[.int .i64 x, .int .i64 y] 26) |>.mono (Nat.le_trans hB HB2.out.size))
      have hbz := HB.out.size
      go_wp2_with (at_builtin; go_loud (refine Rec.append_holds (l := [(x, y)]) cs_len cs_one rfl (.tmp 17) (.tmp 18) 24 26 rfl Try.underlying24 hi hz0 hz1 hz2 rfl (by decide) rfl rfl hown hm (by unfold maxLen; simp; omega) (by simp; omega) hbz ?_; intro v1 w3 hown1 hg1))
      have HB := Lib.hid (HB.out.grown hg1 HB.out.size (fun k e => (hown.lt k e).1))
      obtain ⟨a1, c1, rfl, ha1⟩ := Rec.shape_at hown1
      obtain ⟨g, rfl⟩ := ha1 (by simp)
      have HG := Lib.hid (hown1.lt g rfl).1
      have HJS := Lib.hid (join_spans w.heap.size g c1 ([(x, y)] ++ l) w3 hown1 (by simp; omega))
      clear hown1 hg1 hown hm hbz
      go_wp2_with (fail)
      go_at_call 22
      refine HJS.out.mono ?_
      rintro e w4 ⟨v4, d', hp, hsd, rfl, ho4, hg4⟩
      have HO : Hid (Own w4 w.heap.size v4 (add l (x, y))) := Lib.hid (by rw [← HJ.out d' hp hsd]; exact own_mono ho4 HB.out.size)
      have HB := Lib.hid (HB.out.grown hg4 HB.out.size (fun k e => by cases e; exact HG.out))
      clear hp hsd ho4 hg4
      go_wp2
      go_ret
      exact ⟨_, rfl, HO.out, HB.out⟩
end Go.Proofs.Ytegaakgmfphcaaa.Spn
