/-
  CONTRACTS AND PLAIN FACTS, several texts in one; each says in its own words what it proves.
-/
import Derived.Test.YtjeihicjfgimdaaGreatDoorPartG
import Derived.Deep.DeepCutAuto
import Derived.RegionTactic
import Derived.Test.YtjeihicjfgimdaaGreatDoorPartM
import Derived.Test.YtjeihicjfgimdaaGreatDoorPartN
import Derived.Stop.LaidErr
set_option linter.unusedSimpArgs false
set_option linter.unusedVariables false

/-
  CONTRACT of the laws' toGiven (written by stk.py): a copy whose lists are the call's own. Nothing that was there before is changed.
-/
namespace Go.Proofs.YtjeihicjfgimdaaGreatDoor.Giv
open Go Go.RowKit
set_option linter.unusedVariables false
set_option maxRecDepth 1000000
set_option maxRecDepth 1000000

def Copied (n : Int) (m : List UInt8) (ho : List UInt8) (t : List UInt8) (l : List Flds.Fld) (c : Int) (lx : List Flds.Fld) (b : List UInt8) (a : Int) (ps : List Pur.T) (w : World) (e : Ending) (w' : World) : Prop := ∃ u x p, e = .returned (.agg #[.int .i64 n, .string ⟨m.toArray⟩, .string ⟨ho.toArray⟩, .string ⟨t.toArray⟩, u, .int .i64 c, x, .string ⟨b.toArray⟩, .int .i64 a, p]) ∧ Flds.Own w' w.heap.size u l ∧ Flds.Own w' w.heap.size x lx ∧ Pur.Own w' w.heap.size p ps ∧ Below w.heap.size w w'

set_option maxHeartbeats 8000000 in
theorem copy_giv (n : Int) (m ho t : List UInt8) (u : Value) (l : List Flds.Fld) (c : Int) (x : Value) (lx : List Flds.Fld) (b : List UInt8) (a : Int) (p : Value) (ps : List Pur.T) (B : Nat) (w : World) (hu : Flds.Holds w B u l) (hx : Flds.Holds w B x lx) (hp : Pur.Holds w B p ps) (hB : B ≤ w.heap.size) (qu : l.length ≤ 1048576) (qx : lx.length ≤ 1048576) (qp : ps.length ≤ 1048576) :
    Calls Tryz.prog 9 #[.agg #[.int .i64 n, .string ⟨m.toArray⟩, .string ⟨ho.toArray⟩, .string ⟨t.toArray⟩, u, .int .i64 c, x, .string ⟨b.toArray⟩, .int .i64 a, p]] w (Copied n m ho t l c lx b a ps w) := by
  have HB0 := Lib.hid ((((Below.refl w.heap.size w).alloc (Nat.le_refl _) (.cells #[.int .i64 n, .string ⟨m.toArray⟩, .string ⟨ho.toArray⟩, .string ⟨t.toArray⟩, u, .int .i64 c, x, .string ⟨b.toArray⟩, .int .i64 a, p] 29)).alloc (by simp) (.cells #[.int .i64 0, .string ⟨#[]⟩, .string ⟨#[]⟩, .string ⟨#[]⟩, .slice none 0 0, .int .i64 0, .slice none 0 0, .string ⟨#[]⟩, .int .i64 0, .slice none 0 0] 39)).alloc (by simp; omega) (.cells #[.int .i64 n, .string ⟨#[]⟩, .string ⟨#[]⟩, .string ⟨#[]⟩, .slice none 0 0, .int .i64 0, .slice none 0 0, .string ⟨#[]⟩, .int .i64 0, .slice none 0 0] 39))
  have HS0 := Lib.hid (fun W (hb : Below w.heap.size w W) => Msg.copy_req m ho t u l B W (Flds.holds_below hu (hb.mono hB)) (Nat.le_trans hB hb.size) qu)
  have HS1 := Lib.hid (fun W (hb : Below w.heap.size w W) => Msg.copy_rsp c x lx b B W (Flds.holds_below hx (hb.mono hB)) (Nat.le_trans hB hb.size) qx)
  have HS2 := Lib.hid (fun W (hb : Below w.heap.size w W) => Pur.copy p B ps W (Pur.holds_below hp (hb.mono hB)) qp)
  unfold Msg.CopiedQ at HS0
  unfold Msg.Copied at HS1
  have HX := Lib.hid (((Kept.Box.new (w := w) (T := 29) (a := #[.int .i64 n, .string ⟨m.toArray⟩, .string ⟨ho.toArray⟩, .string ⟨t.toArray⟩, u, .int .i64 c, x, .string ⟨b.toArray⟩, .int .i64 a, p])).alloc (.cells #[.int .i64 0, .string ⟨#[]⟩, .string ⟨#[]⟩, .string ⟨#[]⟩, .slice none 0 0, .int .i64 0, .slice none 0 0, .string ⟨#[]⟩, .int .i64 0, .slice none 0 0] 39)).alloc (.cells #[.int .i64 n, .string ⟨#[]⟩, .string ⟨#[]⟩, .string ⟨#[]⟩, .slice none 0 0, .int .i64 0, .slice none 0 0, .string ⟨#[]⟩, .int .i64 0, .slice none 0 0] 39))
  have HY := Lib.hid ((Kept.Box.new (w := (w.alloc (.cells #[.int .i64 n, .string ⟨m.toArray⟩, .string ⟨ho.toArray⟩, .string ⟨t.toArray⟩, u, .int .i64 c, x, .string ⟨b.toArray⟩, .int .i64 a, p] 29))) (T := 39) (a := #[.int .i64 0, .string ⟨#[]⟩, .string ⟨#[]⟩, .string ⟨#[]⟩, .slice none 0 0, .int .i64 0, .slice none 0 0, .string ⟨#[]⟩, .int .i64 0, .slice none 0 0])).alloc (.cells #[.int .i64 n, .string ⟨#[]⟩, .string ⟨#[]⟩, .string ⟨#[]⟩, .slice none 0 0, .int .i64 0, .slice none 0 0, .string ⟨#[]⟩, .int .i64 0, .slice none 0 0] 39))
  have HZ := Lib.hid (Kept.Box.new (w := ((w.alloc (.cells #[.int .i64 n, .string ⟨m.toArray⟩, .string ⟨ho.toArray⟩, .string ⟨t.toArray⟩, u, .int .i64 c, x, .string ⟨b.toArray⟩, .int .i64 a, p] 29)).alloc (.cells #[.int .i64 0, .string ⟨#[]⟩, .string ⟨#[]⟩, .string ⟨#[]⟩, .slice none 0 0, .int .i64 0, .slice none 0 0, .string ⟨#[]⟩, .int .i64 0, .slice none 0 0] 39))) (T := 39) (a := #[.int .i64 n, .string ⟨#[]⟩, .string ⟨#[]⟩, .string ⟨#[]⟩, .slice none 0 0, .int .i64 0, .slice none 0 0, .string ⟨#[]⟩, .int .i64 0, .slice none 0 0]))
  rw [show (w.alloc (.cells #[.int .i64 n, .string ⟨m.toArray⟩, .string ⟨ho.toArray⟩, .string ⟨t.toArray⟩, u, .int .i64 c, x, .string ⟨b.toArray⟩, .int .i64 a, p] 29)).heap.size = w.heap.size + 1 by simp] at HY
  rw [show ((w.alloc (.cells #[.int .i64 n, .string ⟨m.toArray⟩, .string ⟨ho.toArray⟩, .string ⟨t.toArray⟩, u, .int .i64 c, x, .string ⟨b.toArray⟩, .int .i64 a, p] 29)).alloc (.cells #[.int .i64 0, .string ⟨#[]⟩, .string ⟨#[]⟩, .string ⟨#[]⟩, .slice none 0 0, .int .i64 0, .slice none 0 0, .string ⟨#[]⟩, .int .i64 0, .slice none 0 0] 39)).heap.size = w.heap.size + 1 + 1 by simp] at HZ
  have hz3 : (((w.alloc (.cells #[.int .i64 n, .string ⟨m.toArray⟩, .string ⟨ho.toArray⟩, .string ⟨t.toArray⟩, u, .int .i64 c, x, .string ⟨b.toArray⟩, .int .i64 a, p] 29)).alloc (.cells #[.int .i64 0, .string ⟨#[]⟩, .string ⟨#[]⟩, .string ⟨#[]⟩, .slice none 0 0, .int .i64 0, .slice none 0 0, .string ⟨#[]⟩, .int .i64 0, .slice none 0 0] 39)).alloc (.cells #[.int .i64 n, .string ⟨#[]⟩, .string ⟨#[]⟩, .string ⟨#[]⟩, .slice none 0 0, .int .i64 0, .slice none 0 0, .string ⟨#[]⟩, .int .i64 0, .slice none 0 0] 39)).heap.size = w.heap.size + 1 + 1 + 1 := by simp
  unfold Copied
  clear hu hx hp
  go_enter Tryz.func9, Tryz.ntmps9
  go_wp2_with (fail)
  go_at_call 32
  refine (HS0.out _ HB0.out).mono ?_
  rintro e w1 ⟨v1, rfl, o1, hb1⟩
  obtain ⟨a1, c1, rfl, _⟩ := Rec.shape_at o1
  have hZ1 := HZ.out.below hb1
  have hX1 := HX.out.below hb1
  have hY1 := HY.out.below hb1
  have HB1 := Lib.hid (HB0.out.trans (hb1.mono HB0.out.size))
  have hs1 := hb1.size
  rw [hz3] at hs1 o1
  clear hz3
  have HO1 : Hid (w1.ownsRow (w.heap.size + 1 + 1 + 1) 70 2 (.slice a1 (l.length) c1) (l.length) (Flds.fcs l)) := Lib.hid (Rec.own_mono o1 (by omega))
  clear o1 hb1
  have z1 := hZ1.cell 1 _ rfl
  have zf1 := hZ1.frz 1
  have z2 := hZ1.cell 2 _ rfl
  have zf2 := hZ1.frz 2
  have z3 := hZ1.cell 3 _ rfl
  have zf3 := hZ1.frz 3
  have z4 := hZ1.cell 4 _ rfl
  have zf4 := hZ1.frz 4
  have x5 := hX1.cell 5 _ rfl
  have x6 := hX1.cell 6 _ rfl
  have x7 := hX1.cell 7 _ rfl
  have HZ1 := Lib.hid ((((hZ1.same (k := 1) (by simp) (.string ⟨m.toArray⟩)).same (k := 2) (by simp) (.string ⟨ho.toArray⟩)).same (k := 3) (by simp) (.string ⟨t.toArray⟩)).same (k := 4) (by simp) (.slice a1 (l.length) c1))
  have HX1 := Lib.hid ((((hX1.other (g' := w.heap.size + 1 + 1) (k := 1) (by omega) (.string ⟨m.toArray⟩)).other (g' := w.heap.size + 1 + 1) (k := 2) (by omega) (.string ⟨ho.toArray⟩)).other (g' := w.heap.size + 1 + 1) (k := 3) (by omega) (.string ⟨t.toArray⟩)).other (g' := w.heap.size + 1 + 1) (k := 4) (by omega) (.slice a1 (l.length) c1))
  have HY1 := Lib.hid ((((hY1.other (g' := w.heap.size + 1 + 1) (k := 1) (by omega) (.string ⟨m.toArray⟩)).other (g' := w.heap.size + 1 + 1) (k := 2) (by omega) (.string ⟨ho.toArray⟩)).other (g' := w.heap.size + 1 + 1) (k := 3) (by omega) (.string ⟨t.toArray⟩)).other (g' := w.heap.size + 1 + 1) (k := 4) (by omega) (.slice a1 (l.length) c1))
  have HB1' := Lib.hid ((((HB1.out.setCell (p := ⟨w.heap.size + 1 + 1, 1, none⟩) (by show w.heap.size ≤ w.heap.size + 1 + 1; omega) (.string ⟨m.toArray⟩)).setCell (p := ⟨w.heap.size + 1 + 1, 2, none⟩) (by show w.heap.size ≤ w.heap.size + 1 + 1; omega) (.string ⟨ho.toArray⟩)).setCell (p := ⟨w.heap.size + 1 + 1, 3, none⟩) (by show w.heap.size ≤ w.heap.size + 1 + 1; omega) (.string ⟨t.toArray⟩)).setCell (p := ⟨w.heap.size + 1 + 1, 4, none⟩) (by show w.heap.size ≤ w.heap.size + 1 + 1; omega) (.slice a1 (l.length) c1))
  clear hZ1 hX1 hY1 HZ HX HY
  go_wp2_with (fail)
  go_at_call 33
  refine (HS1.out _ HB1'.out).mono ?_
  rintro e w2 ⟨v2, rfl, o2, hb2⟩
  obtain ⟨a2, c2, rfl, _⟩ := Rec.shape_at o2
  have hZ2 := HZ1.out.below hb2
  have hX2 := HX1.out.below hb2
  have hY2 := HY1.out.below hb2
  have HB2 := Lib.hid (Base.then_below HB1'.out hb2)
  have hs2 := hb2.size
  repeat rw [World.size_setCell] at hs2
  repeat rw [World.size_setCell] at o2
  have hne : Value.ownBlock (.slice a1 (l.length) c1) ≠ some (w.heap.size + 1 + 1) := fun e => by have h9 := (HO1.out.lt _ e).1; omega
  have HO1 : Hid (w2.ownsRow (w.heap.size + 1 + 1 + 1) 70 2 (.slice a1 (l.length) c1) (l.length) (Flds.fcs l)) := Lib.hid (Rec.row_below (ownsRow_setCell_other (a := ⟨w.heap.size + 1 + 1, 4, none⟩) (ownsRow_setCell_other (a := ⟨w.heap.size + 1 + 1, 3, none⟩) (ownsRow_setCell_other (a := ⟨w.heap.size + 1 + 1, 2, none⟩) (ownsRow_setCell_other (a := ⟨w.heap.size + 1 + 1, 1, none⟩) HO1.out hne _) hne _) hne _) hne _) hb2)
  clear hne
  have HO2 : Hid (w2.ownsRow (w.heap.size + 1 + 1 + 1) 70 2 (.slice a2 (lx.length) c2) (lx.length) (Flds.fcs lx)) := Lib.hid (Rec.own_mono o2 (by omega))
  clear z1 zf1 z2 zf2 z3 zf3 z4 zf4 x5 x6 x7
  clear o2 hb2
  have z5 := hZ2.cell 5 _ rfl
  have zf5 := hZ2.frz 5
  have z6 := hZ2.cell 6 _ rfl
  have zf6 := hZ2.frz 6
  have z7 := hZ2.cell 7 _ rfl
  have zf7 := hZ2.frz 7
  have z8 := hZ2.cell 8 _ rfl
  have zf8 := hZ2.frz 8
  have x8 := hX2.cell 8 _ rfl
  have x9 := hX2.cell 9 _ rfl
  have HZ2 := Lib.hid ((((hZ2.same (k := 5) (by simp) (.int .i64 c)).same (k := 6) (by simp) (.slice a2 (lx.length) c2)).same (k := 7) (by simp) (.string ⟨b.toArray⟩)).same (k := 8) (by simp) (.int .i64 a))
  have HX2 := Lib.hid ((((hX2.other (g' := w.heap.size + 1 + 1) (k := 5) (by omega) (.int .i64 c)).other (g' := w.heap.size + 1 + 1) (k := 6) (by omega) (.slice a2 (lx.length) c2)).other (g' := w.heap.size + 1 + 1) (k := 7) (by omega) (.string ⟨b.toArray⟩)).other (g' := w.heap.size + 1 + 1) (k := 8) (by omega) (.int .i64 a))
  have HY2 := Lib.hid ((((hY2.other (g' := w.heap.size + 1 + 1) (k := 5) (by omega) (.int .i64 c)).other (g' := w.heap.size + 1 + 1) (k := 6) (by omega) (.slice a2 (lx.length) c2)).other (g' := w.heap.size + 1 + 1) (k := 7) (by omega) (.string ⟨b.toArray⟩)).other (g' := w.heap.size + 1 + 1) (k := 8) (by omega) (.int .i64 a))
  have HB2' := Lib.hid ((((HB2.out.setCell (p := ⟨w.heap.size + 1 + 1, 5, none⟩) (by show w.heap.size ≤ w.heap.size + 1 + 1; omega) (.int .i64 c)).setCell (p := ⟨w.heap.size + 1 + 1, 6, none⟩) (by show w.heap.size ≤ w.heap.size + 1 + 1; omega) (.slice a2 (lx.length) c2)).setCell (p := ⟨w.heap.size + 1 + 1, 7, none⟩) (by show w.heap.size ≤ w.heap.size + 1 + 1; omega) (.string ⟨b.toArray⟩)).setCell (p := ⟨w.heap.size + 1 + 1, 8, none⟩) (by show w.heap.size ≤ w.heap.size + 1 + 1; omega) (.int .i64 a))
  clear hZ2 hX2 hY2 HZ1 HX1 HY1
  go_wp2_with (fail)
  go_at_call 34
  refine (HS2.out _ HB2'.out).mono ?_
  rintro e w3 ⟨v3, rfl, o3, hb3⟩
  obtain ⟨a3, c3, rfl, _⟩ := Rec.shape_at o3
  have hZ3 := HZ2.out.below hb3
  have hX3 := HX2.out.below hb3
  have hY3 := HY2.out.below hb3
  have HB3 := Lib.hid (Base.then_below HB2'.out hb3)
  have hs3 := hb3.size
  repeat rw [World.size_setCell] at hs3
  repeat rw [World.size_setCell] at o3
  have hne : Value.ownBlock (.slice a1 (l.length) c1) ≠ some (w.heap.size + 1 + 1) := fun e => by have h9 := (HO1.out.lt _ e).1; omega
  have HO1 : Hid (w3.ownsRow (w.heap.size + 1 + 1 + 1) 70 2 (.slice a1 (l.length) c1) (l.length) (Flds.fcs l)) := Lib.hid (Rec.row_below (ownsRow_setCell_other (a := ⟨w.heap.size + 1 + 1, 8, none⟩) (ownsRow_setCell_other (a := ⟨w.heap.size + 1 + 1, 7, none⟩) (ownsRow_setCell_other (a := ⟨w.heap.size + 1 + 1, 6, none⟩) (ownsRow_setCell_other (a := ⟨w.heap.size + 1 + 1, 5, none⟩) HO1.out hne _) hne _) hne _) hne _) hb3)
  clear hne
  have hne : Value.ownBlock (.slice a2 (lx.length) c2) ≠ some (w.heap.size + 1 + 1) := fun e => by have h9 := (HO2.out.lt _ e).1; omega
  have HO2 : Hid (w3.ownsRow (w.heap.size + 1 + 1 + 1) 70 2 (.slice a2 (lx.length) c2) (lx.length) (Flds.fcs lx)) := Lib.hid (Rec.row_below (ownsRow_setCell_other (a := ⟨w.heap.size + 1 + 1, 8, none⟩) (ownsRow_setCell_other (a := ⟨w.heap.size + 1 + 1, 7, none⟩) (ownsRow_setCell_other (a := ⟨w.heap.size + 1 + 1, 6, none⟩) (ownsRow_setCell_other (a := ⟨w.heap.size + 1 + 1, 5, none⟩) HO2.out hne _) hne _) hne _) hne _) hb3)
  clear hne
  have HO3 : Hid (w3.ownsRow (w.heap.size + 1 + 1 + 1) 97 3 (.slice a3 (ps.length) c3) (ps.length) (Pur.fcs ps)) := Lib.hid (Rec.own_mono o3 (by omega))
  clear z5 zf5 z6 zf6 z7 zf7 z8 zf8 x8 x9
  clear o3 hb3
  have hn2_1 : Value.ownBlock (.slice a1 (l.length) c1) ≠ some (w.heap.size + 1 + 1) := fun e => by have h9 := (HO1.out.lt _ e).1; omega
  have HN1 : Hid (Value.ownBlock (.slice a1 (l.length) c1) ≠ some (w.heap.size + 1)) := Lib.hid (fun e => by have h9 := (HO1.out.lt _ e).1; omega)
  have hn2_2 : Value.ownBlock (.slice a2 (lx.length) c2) ≠ some (w.heap.size + 1 + 1) := fun e => by have h9 := (HO2.out.lt _ e).1; omega
  have HN2 : Hid (Value.ownBlock (.slice a2 (lx.length) c2) ≠ some (w.heap.size + 1)) := Lib.hid (fun e => by have h9 := (HO2.out.lt _ e).1; omega)
  have hn2_3 : Value.ownBlock (.slice a3 (ps.length) c3) ≠ some (w.heap.size + 1 + 1) := fun e => by have h9 := (HO3.out.lt _ e).1; omega
  have HN3 : Hid (Value.ownBlock (.slice a3 (ps.length) c3) ≠ some (w.heap.size + 1)) := Lib.hid (fun e => by have h9 := (HO3.out.lt _ e).1; omega)
  have z0 := hZ3.cell 0 _ rfl
  have z1 := hZ3.cell 1 _ rfl
  have z2 := hZ3.cell 2 _ rfl
  have z3 := hZ3.cell 3 _ rfl
  have z4 := hZ3.cell 4 _ rfl
  have z5 := hZ3.cell 5 _ rfl
  have z6 := hZ3.cell 6 _ rfl
  have z7 := hZ3.cell 7 _ rfl
  have z8 := hZ3.cell 8 _ rfl
  have z9 := hZ3.cell 9 _ rfl
  have zf9 := hZ3.frz 9
  have HZE := Lib.hid (hZ3.same (k := 9) (by simp) (.slice a3 (ps.length) c3))
  have HYE := Lib.hid (hY3.other (g' := w.heap.size + 1 + 1) (k := 9) (by omega) (.slice a3 (ps.length) c3))
  have HBZ := Lib.hid (HB3.out.setCell (p := ⟨w.heap.size + 1 + 1, 9, none⟩) (by show w.heap.size ≤ w.heap.size + 1 + 1; omega) (.slice a3 (ps.length) c3))
  have HW1 : Hid ((w3.setCell ⟨w.heap.size + 1 + 1, 9, none⟩ (.slice a3 (ps.length) c3)).ownsRow (w.heap.size + 1 + 1 + 1) 70 2 (.slice a1 (l.length) c1) (l.length) (Flds.fcs l)) := Lib.hid (ownsRow_setCell_other (a := ⟨w.heap.size + 1 + 1, 9, none⟩) HO1.out hn2_1 _)
  have HW2 : Hid ((w3.setCell ⟨w.heap.size + 1 + 1, 9, none⟩ (.slice a3 (ps.length) c3)).ownsRow (w.heap.size + 1 + 1 + 1) 70 2 (.slice a2 (lx.length) c2) (lx.length) (Flds.fcs lx)) := Lib.hid (ownsRow_setCell_other (a := ⟨w.heap.size + 1 + 1, 9, none⟩) HO2.out hn2_2 _)
  have HW3 : Hid ((w3.setCell ⟨w.heap.size + 1 + 1, 9, none⟩ (.slice a3 (ps.length) c3)).ownsRow (w.heap.size + 1 + 1 + 1) 97 3 (.slice a3 (ps.length) c3) (ps.length) (Pur.fcs ps)) := Lib.hid (ownsRow_setCell_other (a := ⟨w.heap.size + 1 + 1, 9, none⟩) HO3.out hn2_3 _)
  clear hZ3 hX3 hY3 HO1 HO2 HO3 hn2_1 hn2_2 hn2_3 HB3 HZ2 HX2 HY2
  go_upto_region 7 with fail
  generalize (w3.setCell ⟨w.heap.size + 1 + 1, 9, none⟩ (.slice a3 (ps.length) c3)) = wz at HZE HYE HBZ HW1 HW2 HW3 ⊢
  clear z0 z1 z2 z3 z4 z5 z6 z7 z8 z9 zf9
  have hZ := HZE.out
  have hY := HYE.out
  have z0 := hZ.cell 0 _ rfl
  have y0 := hY.cell 0 _ rfl
  have yf0 := hY.frz 0
  have z1 := hZ.cell 1 _ rfl
  have y1 := hY.cell 1 _ rfl
  have yf1 := hY.frz 1
  have z2 := hZ.cell 2 _ rfl
  have y2 := hY.cell 2 _ rfl
  have yf2 := hY.frz 2
  have z3 := hZ.cell 3 _ rfl
  have y3 := hY.cell 3 _ rfl
  have yf3 := hY.frz 3
  have z4 := hZ.cell 4 _ rfl
  have y4 := hY.cell 4 _ rfl
  have yf4 := hY.frz 4
  have z5 := hZ.cell 5 _ rfl
  have y5 := hY.cell 5 _ rfl
  have yf5 := hY.frz 5
  have z6 := hZ.cell 6 _ rfl
  have y6 := hY.cell 6 _ rfl
  have yf6 := hY.frz 6
  have z7 := hZ.cell 7 _ rfl
  have y7 := hY.cell 7 _ rfl
  have yf7 := hY.frz 7
  have z8 := hZ.cell 8 _ rfl
  have y8 := hY.cell 8 _ rfl
  have yf8 := hY.frz 8
  have z9 := hZ.cell 9 _ rfl
  have y9 := hY.cell 9 _ rfl
  have yf9 := hY.frz 9
  clear hZ hY
  go_wp2
  refine bodyPost_ret (v := .agg #[.int .i64 n, .string ⟨m.toArray⟩, .string ⟨ho.toArray⟩, .string ⟨t.toArray⟩, (.slice a1 (l.length) c1), .int .i64 c, (.slice a2 (lx.length) c2), .string ⟨b.toArray⟩, .int .i64 a, (.slice a3 (ps.length) c3)]) (by simp [results, Tryz.results9, go_sem, y0, y1, y2, y3, y4, y5, y6, y7, y8, y9]) rfl ⟨_, _, _, rfl, ?_, ?_, ?_, ?_⟩
  · refine Rec.own_mono (B := w.heap.size + 1 + 1 + 1) ?_ (by omega)
    repeat (refine ownsRow_setCell_other (a := ⟨w.heap.size + 1, _, none⟩) ?_ HN1.out _)
    exact HW1.out
  · refine Rec.own_mono (B := w.heap.size + 1 + 1 + 1) ?_ (by omega)
    repeat (refine ownsRow_setCell_other (a := ⟨w.heap.size + 1, _, none⟩) ?_ HN2.out _)
    exact HW2.out
  · refine Rec.own_mono (B := w.heap.size + 1 + 1 + 1) ?_ (by omega)
    repeat (refine ownsRow_setCell_other (a := ⟨w.heap.size + 1, _, none⟩) ?_ HN3.out _)
    exact HW3.out
  · repeat (refine Below.setCell (p := ⟨w.heap.size + 1, _, none⟩) ?_ (by show w.heap.size ≤ w.heap.size + 1; omega) _)
    exact HBZ.out
end Go.Proofs.YtjeihicjfgimdaaGreatDoor.Giv

/-
  FROM A ROW's LISTED VARIABLES to what the contracts ask of the world: the library's table of powers of ten, wherever it stands on the list.
-/
namespace Go.Proofs.YtjeihicjfgimdaaGreatDoor.Laid
open Go
set_option linter.unusedVariables false
set_option maxRecDepth 1000000

theorem of_vars {P : Program} {w : World} : ∀ {l : List (String × DataW Unit)} {ps : List MemPlace}, DataW.LaidVars P w l ps → ∀ n d, (n, d) ∈ l →
    ∃ g t cs fuel p, P.globalNamed n = some g ∧ (P.globals[g]?).map (·.type) = some t ∧ w.var? P n = some cs ∧ DataW.trod (fun _ => ()) P w 0 (fun _ => true) false fuel t cs.toList = some (d, p)
  | [], _, _, _, _, hm => by cases hm
  | (n', d') :: r, ps, h, n, d, hm => by
    obtain ⟨g, t, cs, fuel, p, q, h1, h2, h3, h4, h5, _⟩ := h
    rcases List.mem_cons.1 hm with e | e
    · cases e
      exact ⟨g, t, cs, fuel, p, h1, h2, h3, h4⟩
    · exact of_vars h5 n d e
theorem tens_datum : (Rows.laid_internal_strconv_uint64pow10 : DataW Unit) = Lib.tabData .u64 Lib.pow10Tab := by kernel_rfl
theorem tens {l : List (String × DataW Unit)} {W : World} (h : laidMet Tryz.prog l W) (hm : ("internal/strconv.uint64pow10", Rows.laid_internal_strconv_uint64pow10) ∈ l) : Fmt.Tens W := by
  obtain ⟨ps, hv, _⟩ := h
  obtain ⟨g, t, cs, fuel, p, hg, ht, hvar, hd⟩ := of_vars hv _ _ hm
  obtain rfl := Option.some.inj ((show Tryz.prog.globalNamed "internal/strconv.uint64pow10" = some 10 by kernel_rfl).symm.trans hg)
  obtain rfl := Option.some.inj ((show (Tryz.prog.globals[10]?).map (·.type) = some 224 by kernel_rfl).symm.trans ht)
  rw [tens_datum] at hd
  unfold Fmt.Tens Lib.TabIs
  rw [hvar, ← Lib.cells_of_tab Tryz.underlying224 Tryz.underlying186 (by kernel_rfl) (by kernel_rfl) hd]
end Go.Proofs.YtjeihicjfgimdaaGreatDoor.Laid

/-
  FROM A ROW's LISTED VARIABLES to what the contracts ask of the world: the two errors of the library's number reader, wherever they stand on the list.
-/
namespace Go.Proofs.YtjeihicjfgimdaaGreatDoor.Laid
open Go
set_option linter.unusedVariables false
set_option maxRecDepth 1000000

theorem at_head {P : Program} {w : World} {n : String} {d : DataW Unit} : ∀ {l : List (String × DataW Unit)}, laidMet P l w → (n, d) ∈ l → ∃ r, laidMet P ((n, d) :: r) w
  | [], _, hm => by cases hm
  | x :: r, h, hm => by
    rcases List.mem_cons.1 hm with e | e
    · cases e; exact ⟨r, h⟩
    · exact at_head h.tail e
theorem errs {l : List (String × DataW Unit)} {W : World} (h : laidMet Tryz.prog l W) (h1 : ("strconv.ErrSyntax", Rows.laid_strconv_ErrSyntax) ∈ l) (h2 : ("strconv.ErrRange", Rows.laid_strconv_ErrRange) ∈ l) : Par.Errs W := by
  obtain ⟨r1, k1⟩ := at_head h h1
  obtain ⟨r2, k2⟩ := at_head h h2
  have row : ∀ u, Tryz.prog.typeName? 3 u = some "*errors.errorString" → u = 205 :=
    fun u hu => typeName_ptr_named (nm := "errors.errorString") (by kernel_rfl) (by kernel_rfl) (by decide) u hu
  obtain ⟨a1, s1, v1, _⟩ := laid_sentinel k1 (show Tryz.prog.globalNamed "strconv.ErrSyntax" = some 3 by kernel_rfl) (show (Tryz.prog.globals[3]?).map (·.type) = some 113 by kernel_rfl) Tryz.underlying113 row Tryz.underlying205 Tryz.underlying207 rfl rfl Tryz.underlying9 (by kernel_rfl) (by kernel_rfl)
  obtain ⟨a2, s2, v2, _⟩ := laid_sentinel k2 (show Tryz.prog.globalNamed "strconv.ErrRange" = some 4 by kernel_rfl) (show (Tryz.prog.globals[4]?).map (·.type) = some 113 by kernel_rfl) Tryz.underlying113 row Tryz.underlying205 Tryz.underlying207 rfl rfl Tryz.underlying9 (by kernel_rfl) (by kernel_rfl)
  exact ⟨⟨_, _, v1⟩, ⟨_, _, v2⟩⟩
end Go.Proofs.YtjeihicjfgimdaaGreatDoor.Laid
