/-
  CONTRACT of the laws' toResource: a copy whose lists are the call's own. Nothing that was there before is changed.
-/
import Derived.Test.YtggokmhdmnkoiaaRes
namespace Go.Proofs.Ytggokmhdmnkoiaa.Res
open Go Go.RowKit
set_option linter.unusedVariables false
set_option maxRecDepth 1000000

def Copied (t c k : List UInt8) (p : Bool) (gs : List (List UInt8)) (vs : List Ver.T) (w : World) (e : Ending) (w' : World) : Prop := ∃ u v, e = .returned (.agg #[.string ⟨t.toArray⟩, .string ⟨c.toArray⟩, .string ⟨k.toArray⟩, .bool p, u, v]) ∧ Strs.Own w' w.heap.size u gs ∧ Ver.Own w' w.heap.size v vs ∧ Below w.heap.size w w'
theorem sown_mono {w : World} {B B' : Nat} {v : Value} {xs : List (List UInt8)} (h : Strs.Own w B v xs) (hB : B' ≤ B) : Strs.Own w B' v xs := Rec.own_mono h hB
theorem sown_below {w w' : World} {B : Nat} {v : Value} {xs : List (List UInt8)} (h : Strs.Own w B v xs) (hb : Below w.heap.size w w') : Strs.Own w' B v xs := Rec.row_below h hb

theorem keep_set {w1 w2 : World} {g o b j : Nat} {v u : Value} (hb2 : Below (w1.setCell ⟨g, o, none⟩ v).heap.size (w1.setCell ⟨g, o, none⟩ v) w2) (hq : w1.cell? ⟨b, j, none⟩ = some u) (hne : ¬ (g = b ∧ o = j)) : w2.cell? ⟨b, j, none⟩ = some u := by
  rw [hb2.cell (p := ⟨b, j, none⟩) (by rw [World.size_setCell]; exact Rec.lt_of_cell hq), World.cell?_setCell_other _ _ _ _ (fun e => hne (by cases e; exact ⟨rfl, rfl⟩))]; exact hq
theorem at_set {w1 w2 : World} {g o : Nat} {v u : Value} (hb2 : Below (w1.setCell ⟨g, o, none⟩ v).heap.size (w1.setCell ⟨g, o, none⟩ v) w2) (hq : w1.cell? ⟨g, o, none⟩ = some u) : w2.cell? ⟨g, o, none⟩ = some v := by
  rw [hb2.cell (p := ⟨g, o, none⟩) (by rw [World.size_setCell]; exact Rec.lt_of_cell hq), World.cell?_setCell_same _ _ _ hq]
theorem frz_set {w1 w2 : World} {g o b j : Nat} {v u : Value} (hb2 : Below (w1.setCell ⟨g, o, none⟩ v).heap.size (w1.setCell ⟨g, o, none⟩ v) w2) (hq : w1.cell? ⟨b, j, none⟩ = some u) (hf : w1.frozen? ⟨b, j, none⟩ = false) : w2.frozen? ⟨b, j, none⟩ = false := by
  rw [hb2.frozen (p := ⟨b, j, none⟩) (by rw [World.size_setCell]; exact Rec.lt_of_cell hq), World.frozen?_setCell]; exact hf

set_option maxHeartbeats 4000000 in
theorem copy_res (t c k : List UInt8) (p : Bool) (u : Value) (gs : List (List UInt8)) (v : Value) (vs : List Ver.T) (B : Nat) (w : World) (h : Strs.Holds w B u gs) (h2 : Ver.Holds w B v vs) (hB : B ≤ w.heap.size) (hl : gs.length ≤ 1048576) (hl2 : vs.length ≤ 1048576) :
    Calls Try.prog 54 #[.agg #[.string ⟨t.toArray⟩, .string ⟨c.toArray⟩, .string ⟨k.toArray⟩, .bool p, u, v]] w (Copied t c k p gs vs w) := by
  have HB0 := Lib.hid ((((Below.refl w.heap.size w).alloc (Nat.le_refl _) (.cells #[.string ⟨t.toArray⟩, .string ⟨c.toArray⟩, .string ⟨k.toArray⟩, .bool p, u, v] 96)).alloc (by simp) (.cells #[.string ⟨#[]⟩, .string ⟨#[]⟩, .string ⟨#[]⟩, .bool false, .slice none 0 0, .slice none 0 0] 69)).alloc (by simp; omega) (.cells #[.string ⟨t.toArray⟩, .string ⟨c.toArray⟩, .string ⟨k.toArray⟩, .bool p, .slice none 0 0, .slice none 0 0] 69))
  have HS := Lib.hid (Strs.copy u B gs _ (Strs.holds_below h (HB0.out.mono hB)) (by omega))
  have HV := Lib.hid (fun W (hb : Below w.heap.size w W) => Ver.copy v B vs W (Ver.holds_below h2 (hb.mono hB)) hl2)
  unfold Copied
  clear h h2
  go_enter Try.func54, Try.ntmps54
  go_wp2_with (fail)
  go_at_call 67
  refine HS.out.mono ?_
  rintro e w1 ⟨x, rfl, ho', hb1⟩
  obtain ⟨a, cap, rfl, _⟩ := Rec.shape_at ho'
  have hk3 := Kept.three hb1
  have hk2 := Kept.two (Kept.below_in hb1)
  have hk1 := Kept.one (Kept.below_in (Kept.below_in hb1))
  have q0 := hk3.1 0 _ rfl
  have q1 := hk3.1 1 _ rfl
  have q2 := hk3.1 2 _ rfl
  have q3 := hk3.1 3 _ rfl
  have q4 := hk3.1 4 _ rfl
  have q5 := hk3.1 5 _ rfl
  have x5 := hk1.1 5 _ rfl
  have fs4 := hk3.2 4
  have fs5 := hk3.2 5
  have r0 := hk2.1 0 _ rfl
  have r1 := hk2.1 1 _ rfl
  have r2 := hk2.1 2 _ rfl
  have r3 := hk2.1 3 _ rfl
  have r4 := hk2.1 4 _ rfl
  have r5 := hk2.1 5 _ rfl
  have fr0 := hk2.2 0
  have fr1 := hk2.2 1
  have fr2 := hk2.2 2
  have fr3 := hk2.2 3
  have fr4 := hk2.2 4
  have fr5 := hk2.2 5
  have HBW := Lib.hid (HB0.out.trans (hb1.mono HB0.out.size))
  have HOX := Lib.hid ho'
  clear ho' hb1 hk3 hk2 hk1
  have HVX := Lib.hid (HV.out (w1.setCell ⟨w.heap.size + 1 + 1, 4, none⟩ (.slice a gs.length cap)) (HBW.out.setCell (by show w.heap.size ≤ w.heap.size + 1 + 1; omega) _))
  go_wp2_with (fail)
  go_at_call 68
  refine HVX.out.mono ?_
  rintro e w2 ⟨y, rfl, ho2, hb2⟩
  obtain ⟨a2, cap2, rfl, _⟩ := Rec.shape_at ho2
  have HSZ : Hid (w.heap.size + 1 + 1 < w1.heap.size) := Lib.hid (Rec.lt_of_cell q0)
  have hw2 : w1.heap.size ≤ w2.heap.size := by have := hb2.size; rw [World.size_setCell] at this; exact this
  have HB3 := Lib.hid (Base.then_below (HBW.out.setCell (p := ⟨w.heap.size + 1 + 1, 4, none⟩) (by show w.heap.size ≤ w.heap.size + 1 + 1; omega) (.slice a gs.length cap)) hb2)
  have HOY := Lib.hid ho2
  have HOX2 : Hid (w2.ownsRow (w.heap.size + 1 + 1 + 1) 9 1 (.slice a gs.length cap) gs.length (Strs.svs gs)) := Lib.hid (Rec.row_below (ownsRow_setCell_other (a := ⟨w.heap.size + 1 + 1, 4, none⟩) (Rec.own_mono HOX.out (by simp)) (fun e => by have h9 := (HOX.out.lt _ e).1; simp at h9; omega) _) hb2)
  have p0 := keep_set hb2 q0 (by omega)
  have p1 := keep_set hb2 q1 (by omega)
  have p2 := keep_set hb2 q2 (by omega)
  have p3 := keep_set hb2 q3 (by omega)
  have p5 := keep_set hb2 q5 (by omega)
  have p4 := at_set hb2 q4
  have ps5 := frz_set hb2 q5 fs5
  have t0 := keep_set hb2 r0 (by omega)
  have tf0 := frz_set hb2 r0 fr0
  have t1 := keep_set hb2 r1 (by omega)
  have tf1 := frz_set hb2 r1 fr1
  have t2 := keep_set hb2 r2 (by omega)
  have tf2 := frz_set hb2 r2 fr2
  have t3 := keep_set hb2 r3 (by omega)
  have tf3 := frz_set hb2 r3 fr3
  have t4 := keep_set hb2 r4 (by omega)
  have tf4 := frz_set hb2 r4 fr4
  have t5 := keep_set hb2 r5 (by omega)
  have tf5 := frz_set hb2 r5 fr5
  clear q0 q1 q2 q3 q4 q5 r0 r1 r2 r3 r4 r5 fs4 fs5 fr0 fr1 fr2 fr3 fr4 fr5 x5 HOX HVX hb2 ho2
  go_wp2
  refine bodyPost_ret (v := .agg #[.string ⟨t.toArray⟩, .string ⟨c.toArray⟩, .string ⟨k.toArray⟩, .bool p, .slice a gs.length cap, .slice a2 vs.length cap2]) (by simp [results, Try.results54, go_sem, t0, t1, t2, t3, t4, t5]) rfl ⟨_, _, rfl, ?_, ?_, ?_⟩
  · have hno : ∀ k, Value.ownBlock (.slice a gs.length cap) = some k → w.heap.size + 1 + 1 < k := fun k e => by have h9 := (HOX2.out.lt k e).1; omega
    have e2 : Value.ownBlock (.slice a gs.length cap) ≠ some (w.heap.size + 1 + 1) := fun e => by have := hno _ e; omega
    have e1 : Value.ownBlock (.slice a gs.length cap) ≠ some (w.heap.size + 1) := fun e => by have := hno _ e; omega
    exact Rec.own_mono (ownsRow_setCell_other (a := ⟨w.heap.size + 1, 5, none⟩) (ownsRow_setCell_other (a := ⟨w.heap.size + 1, 4, none⟩) (ownsRow_setCell_other (a := ⟨w.heap.size + 1, 3, none⟩) (ownsRow_setCell_other (a := ⟨w.heap.size + 1, 2, none⟩) (ownsRow_setCell_other (a := ⟨w.heap.size + 1, 1, none⟩) (ownsRow_setCell_other (a := ⟨w.heap.size + 1, 0, none⟩) (ownsRow_setCell_other (a := ⟨w.heap.size + 1 + 1, 5, none⟩) HOX2.out e2 _) e1 _) e1 _) e1 _) e1 _) e1 _) e1 _) (by omega)
  · have hno : ∀ k, Value.ownBlock (.slice a2 vs.length cap2) = some k → w.heap.size + 1 + 1 < k := fun k e => by
      have h9 := (HOY.out.lt k e).1
      rw [World.size_setCell] at h9
      have h8 := HSZ.out
      omega
    have e2 : Value.ownBlock (.slice a2 vs.length cap2) ≠ some (w.heap.size + 1 + 1) := fun e => by have := hno _ e; omega
    have e1 : Value.ownBlock (.slice a2 vs.length cap2) ≠ some (w.heap.size + 1) := fun e => by have := hno _ e; omega
    exact Rec.own_mono (ownsRow_setCell_other (a := ⟨w.heap.size + 1, 5, none⟩) (ownsRow_setCell_other (a := ⟨w.heap.size + 1, 4, none⟩) (ownsRow_setCell_other (a := ⟨w.heap.size + 1, 3, none⟩) (ownsRow_setCell_other (a := ⟨w.heap.size + 1, 2, none⟩) (ownsRow_setCell_other (a := ⟨w.heap.size + 1, 1, none⟩) (ownsRow_setCell_other (a := ⟨w.heap.size + 1, 0, none⟩) (ownsRow_setCell_other (a := ⟨w.heap.size + 1 + 1, 5, none⟩) HOY.out e2 _) e1 _) e1 _) e1 _) e1 _) e1 _) e1 _) (by rw [World.size_setCell]; have h8 := HSZ.out; omega)
  · exact ((((((HB3.out.setCell (p := ⟨w.heap.size + 1 + 1, 5, none⟩) (by show w.heap.size ≤ w.heap.size + 1 + 1; omega) _).setCell (p := ⟨w.heap.size + 1, 0, none⟩) (by show w.heap.size ≤ w.heap.size + 1; omega) _).setCell (p := ⟨w.heap.size + 1, 1, none⟩) (by show w.heap.size ≤ w.heap.size + 1; omega) _).setCell (p := ⟨w.heap.size + 1, 2, none⟩) (by show w.heap.size ≤ w.heap.size + 1; omega) _).setCell (p := ⟨w.heap.size + 1, 3, none⟩) (by show w.heap.size ≤ w.heap.size + 1; omega) _).setCell (p := ⟨w.heap.size + 1, 4, none⟩) (by show w.heap.size ≤ w.heap.size + 1; omega) _).setCell (p := ⟨w.heap.size + 1, 5, none⟩) (by show w.heap.size ≤ w.heap.size + 1; omega) _
end Go.Proofs.Ytggokmhdmnkoiaa.Res
