/-
  CONTRACT of the laws' toEntry: a copy whose lists are the call's own. Nothing that was there before is changed.
-/
import Derived.Test.YtggokmhdmnkoiaaEnt
import Derived.Deep.DeepCutAuto
import Derived.RegionTactic
namespace Go.Proofs.Ytggokmhdmnkoiaa.Ent
open Go Go.RowKit
set_option linter.unusedVariables false
set_option maxRecDepth 1000000
set_option maxRecDepth 1000000

def Copied (k : List UInt8) (ls : List Flds.Fld) (c : Int) (l : List Flds.Fld) (b : List UInt8) (ps : List Pcs.T) (n i g q : Int) (w : World) (e : Ending) (w' : World) : Prop := ∃ s u p, e = .returned (.agg #[.string ⟨k.toArray⟩, s, .int .i64 c, u, .string ⟨b.toArray⟩, p, .int .i64 n, .int .i64 i, .int .i64 g, .int .i64 q]) ∧ Flds.Own w' w.heap.size s ls ∧ Flds.Own w' w.heap.size u l ∧ Pcs.Own w' w.heap.size p ps ∧ Below w.heap.size w w'

set_option maxHeartbeats 8000000 in
theorem copy_ent (k : List UInt8) (s : Value) (ls : List Flds.Fld) (c : Int) (u : Value) (l : List Flds.Fld) (b : List UInt8) (p : Value) (ps : List Pcs.T) (n i g q : Int) (B : Nat) (w : World) (hs : Flds.Holds w B s ls) (hu : Flds.Holds w B u l) (hp : Pcs.Holds w B p ps) (hB : B ≤ w.heap.size) (h1 : ls.length ≤ 1048576) (h2 : l.length ≤ 1048576) (h3 : ps.length ≤ 1048576) :
    Calls Try.prog 42 #[.agg #[.string ⟨k.toArray⟩, s, .int .i64 c, u, .string ⟨b.toArray⟩, p, .int .i64 n, .int .i64 i, .int .i64 g, .int .i64 q]] w (Copied k ls c l b ps n i g q w) := by
  have HB0 := Lib.hid ((((Below.refl w.heap.size w).alloc (Nat.le_refl _) (.cells #[.string ⟨k.toArray⟩, s, .int .i64 c, u, .string ⟨b.toArray⟩, p, .int .i64 n, .int .i64 i, .int .i64 g, .int .i64 q] 80)).alloc (by simp) (.cells #[.string ⟨#[]⟩, .slice none 0 0, .int .i64 0, .slice none 0 0, .string ⟨#[]⟩, .slice none 0 0, .int .i64 0, .int .i64 0, .int .i64 0, .int .i64 0] 58)).alloc (by simp; omega) (.cells #[.string ⟨k.toArray⟩, .slice none 0 0, .int .i64 0, .slice none 0 0, .string ⟨#[]⟩, .slice none 0 0, .int .i64 0, .int .i64 0, .int .i64 0, .int .i64 0] 58))
  have HS := Lib.hid (fun W (hb : Below w.heap.size w W) => Flds.copy s B ls W (Flds.holds_below hs (hb.mono hB)) h1)
  have HR := Lib.hid (fun W (hb : Below w.heap.size w W) => Msg.copy_rsp c u l b B W (Flds.holds_below hu (hb.mono hB)) (Nat.le_trans hB hb.size) h2)
  have HP := Lib.hid (fun W (hb : Below w.heap.size w W) => Pcs.copy p B ps W (Pcs.holds_below hp (hb.mono hB)) h3)
  have HX := Lib.hid (((Kept.Box.new (w := w) (T := 80) (a := #[.string ⟨k.toArray⟩, s, .int .i64 c, u, .string ⟨b.toArray⟩, p, .int .i64 n, .int .i64 i, .int .i64 g, .int .i64 q])).alloc (.cells #[.string ⟨#[]⟩, .slice none 0 0, .int .i64 0, .slice none 0 0, .string ⟨#[]⟩, .slice none 0 0, .int .i64 0, .int .i64 0, .int .i64 0, .int .i64 0] 58)).alloc (.cells #[.string ⟨k.toArray⟩, .slice none 0 0, .int .i64 0, .slice none 0 0, .string ⟨#[]⟩, .slice none 0 0, .int .i64 0, .int .i64 0, .int .i64 0, .int .i64 0] 58))
  have HY := Lib.hid ((Kept.Box.new (w := (w.alloc (.cells #[.string ⟨k.toArray⟩, s, .int .i64 c, u, .string ⟨b.toArray⟩, p, .int .i64 n, .int .i64 i, .int .i64 g, .int .i64 q] 80))) (T := 58) (a := #[.string ⟨#[]⟩, .slice none 0 0, .int .i64 0, .slice none 0 0, .string ⟨#[]⟩, .slice none 0 0, .int .i64 0, .int .i64 0, .int .i64 0, .int .i64 0])).alloc (.cells #[.string ⟨k.toArray⟩, .slice none 0 0, .int .i64 0, .slice none 0 0, .string ⟨#[]⟩, .slice none 0 0, .int .i64 0, .int .i64 0, .int .i64 0, .int .i64 0] 58))
  have HZ := Lib.hid (Kept.Box.new (w := ((w.alloc (.cells #[.string ⟨k.toArray⟩, s, .int .i64 c, u, .string ⟨b.toArray⟩, p, .int .i64 n, .int .i64 i, .int .i64 g, .int .i64 q] 80)).alloc (.cells #[.string ⟨#[]⟩, .slice none 0 0, .int .i64 0, .slice none 0 0, .string ⟨#[]⟩, .slice none 0 0, .int .i64 0, .int .i64 0, .int .i64 0, .int .i64 0] 58))) (T := 58) (a := #[.string ⟨k.toArray⟩, .slice none 0 0, .int .i64 0, .slice none 0 0, .string ⟨#[]⟩, .slice none 0 0, .int .i64 0, .int .i64 0, .int .i64 0, .int .i64 0]))
  rw [show (w.alloc (.cells #[.string ⟨k.toArray⟩, s, .int .i64 c, u, .string ⟨b.toArray⟩, p, .int .i64 n, .int .i64 i, .int .i64 g, .int .i64 q] 80)).heap.size = w.heap.size + 1 by simp] at HY
  rw [show ((w.alloc (.cells #[.string ⟨k.toArray⟩, s, .int .i64 c, u, .string ⟨b.toArray⟩, p, .int .i64 n, .int .i64 i, .int .i64 g, .int .i64 q] 80)).alloc (.cells #[.string ⟨#[]⟩, .slice none 0 0, .int .i64 0, .slice none 0 0, .string ⟨#[]⟩, .slice none 0 0, .int .i64 0, .int .i64 0, .int .i64 0, .int .i64 0] 58)).heap.size = w.heap.size + 1 + 1 by simp] at HZ
  have hz3 : (((w.alloc (.cells #[.string ⟨k.toArray⟩, s, .int .i64 c, u, .string ⟨b.toArray⟩, p, .int .i64 n, .int .i64 i, .int .i64 g, .int .i64 q] 80)).alloc (.cells #[.string ⟨#[]⟩, .slice none 0 0, .int .i64 0, .slice none 0 0, .string ⟨#[]⟩, .slice none 0 0, .int .i64 0, .int .i64 0, .int .i64 0, .int .i64 0] 58)).alloc (.cells #[.string ⟨k.toArray⟩, .slice none 0 0, .int .i64 0, .slice none 0 0, .string ⟨#[]⟩, .slice none 0 0, .int .i64 0, .int .i64 0, .int .i64 0, .int .i64 0] 58)).heap.size = w.heap.size + 1 + 1 + 1 := by simp
  unfold Copied
  unfold Msg.Copied at HR
  clear hs hu hp
  go_enter Try.func42, Try.ntmps42
  go_wp2_with (fail)
  go_at_call 59
  refine (HS.out _ HB0.out).mono ?_
  rintro e w1 ⟨v1, rfl, o1, hb1⟩
  obtain ⟨a1, c1, rfl, _⟩ := Rec.shape_at o1
  have hZ1 := HZ.out.below hb1
  have hX1 := HX.out.below hb1
  have hY1 := HY.out.below hb1
  have HB1 := Lib.hid (HB0.out.trans (hb1.mono HB0.out.size))
  have hs1 := hb1.size
  rw [hz3] at hs1
  have HO1 : Hid (w1.ownsRow (w.heap.size + 1 + 1 + 1) 110 2 (.slice a1 ls.length c1) ls.length (Flds.fcs ls)) := Lib.hid (by rw [hz3] at o1; exact o1)
  have z1 := hZ1.cell 1 _ rfl
  have zf1 := hZ1.frz 1
  have x2 := hX1.cell 2 _ rfl
  have x3 := hX1.cell 3 _ rfl
  have x4 := hX1.cell 4 _ rfl
  have HZ1 := Lib.hid (hZ1.same (k := 1) (by simp) (.slice a1 ls.length c1))
  have HX1 := Lib.hid (hX1.other (g' := w.heap.size + 1 + 1) (k := 1) (by omega) (.slice a1 ls.length c1))
  have HY1 := Lib.hid (hY1.other (g' := w.heap.size + 1 + 1) (k := 1) (by omega) (.slice a1 ls.length c1))
  have HB1' := Lib.hid (HB1.out.setCell (p := ⟨w.heap.size + 1 + 1, 1, none⟩) (by show w.heap.size ≤ w.heap.size + 1 + 1; omega) (.slice a1 ls.length c1))
  clear o1 hb1 hZ1 hX1 hY1 hz3
  go_wp2_with (fail)
  go_at_call 60
  refine (HR.out _ HB1'.out).mono ?_
  rintro e w2 ⟨v2, rfl, o2, hb2⟩
  obtain ⟨a2, c2, rfl, _⟩ := Rec.shape_at o2
  have hZ2 := HZ1.out.below hb2
  have hX2 := HX1.out.below hb2
  have hY2 := HY1.out.below hb2
  have HB2 := Lib.hid (Base.then_below HB1'.out hb2)
  have hs2 := hb2.size
  rw [World.size_setCell] at hs2 o2
  have HO1 : Hid (w2.ownsRow (w.heap.size + 1 + 1 + 1) 110 2 (.slice a1 ls.length c1) ls.length (Flds.fcs ls)) := Lib.hid (Rec.row_below (ownsRow_setCell_other (a := ⟨w.heap.size + 1 + 1, 1, none⟩) HO1.out (fun e => by have h9 := (HO1.out.lt _ e).1; simp at h9; omega) _) hb2)
  have HO2 : Hid (w2.ownsRow (w.heap.size + 1 + 1 + 1) 110 2 (.slice a2 l.length c2) l.length (Flds.fcs l)) := Lib.hid (Rec.own_mono o2 hs1)
  clear z1 zf1 x2 x3 x4
  have z2 := hZ2.cell 2 _ rfl
  have z3 := hZ2.cell 3 _ rfl
  have z4 := hZ2.cell 4 _ rfl
  have zf2 := hZ2.frz 2
  have zf3 := hZ2.frz 3
  have zf4 := hZ2.frz 4
  have x5 := hX2.cell 5 _ rfl
  have HZ2 := Lib.hid (((hZ2.same (k := 2) (by simp) (.int .i64 c)).same (k := 3) (by simp) (.slice a2 l.length c2)).same (k := 4) (by simp) (.string ⟨b.toArray⟩))
  have HX2 := Lib.hid (((hX2.other (g' := w.heap.size + 1 + 1) (k := 2) (by omega) (.int .i64 c)).other (g' := w.heap.size + 1 + 1) (k := 3) (by omega) (.slice a2 l.length c2)).other (g' := w.heap.size + 1 + 1) (k := 4) (by omega) (.string ⟨b.toArray⟩))
  have HY2 := Lib.hid (((hY2.other (g' := w.heap.size + 1 + 1) (k := 2) (by omega) (.int .i64 c)).other (g' := w.heap.size + 1 + 1) (k := 3) (by omega) (.slice a2 l.length c2)).other (g' := w.heap.size + 1 + 1) (k := 4) (by omega) (.string ⟨b.toArray⟩))
  have HB2' := Lib.hid (((HB2.out.setCell (p := ⟨w.heap.size + 1 + 1, 2, none⟩) (by show w.heap.size ≤ w.heap.size + 1 + 1; omega) (.int .i64 c)).setCell (p := ⟨w.heap.size + 1 + 1, 3, none⟩) (by show w.heap.size ≤ w.heap.size + 1 + 1; omega) (.slice a2 l.length c2)).setCell (p := ⟨w.heap.size + 1 + 1, 4, none⟩) (by show w.heap.size ≤ w.heap.size + 1 + 1; omega) (.string ⟨b.toArray⟩))
  clear o2 hb2 hZ2 hX2 hY2 HZ1 HX1 HY1
  go_wp2_with (fail)
  go_at_call 61
  refine (HP.out _ HB2'.out).mono ?_
  rintro e w3 ⟨v3, rfl, o3, hb3⟩
  obtain ⟨a3, c3, rfl, _⟩ := Rec.shape_at o3
  have hZ3 := HZ2.out.below hb3
  have hX3 := HX2.out.below hb3
  have hY3 := HY2.out.below hb3
  have HB3 := Lib.hid (Base.then_below HB2'.out hb3)
  have hs3 := hb3.size
  rw [World.size_setCell, World.size_setCell, World.size_setCell] at hs3 o3
  have hne2 : ∀ {T z v m xs} {W : World}, W.ownsRow (w.heap.size + 1 + 1 + 1) T z v m xs → v.ownBlock ≠ some (w.heap.size + 1 + 1) := fun h e => by have h9 := (h.lt _ e).1; omega
  have hne1 : ∀ {T z v m xs} {W : World}, W.ownsRow (w.heap.size + 1 + 1 + 1) T z v m xs → v.ownBlock ≠ some (w.heap.size + 1) := fun h e => by have h9 := (h.lt _ e).1; omega
  have HO1 : Hid (w3.ownsRow (w.heap.size + 1 + 1 + 1) 110 2 (.slice a1 ls.length c1) ls.length (Flds.fcs ls)) := Lib.hid (Rec.row_below (ownsRow_setCell_other (a := ⟨w.heap.size + 1 + 1, 4, none⟩) (ownsRow_setCell_other (a := ⟨w.heap.size + 1 + 1, 3, none⟩) (ownsRow_setCell_other (a := ⟨w.heap.size + 1 + 1, 2, none⟩) HO1.out (hne2 HO1.out) _) (hne2 HO1.out) _) (hne2 HO1.out) _) hb3)
  have HO2 : Hid (w3.ownsRow (w.heap.size + 1 + 1 + 1) 110 2 (.slice a2 l.length c2) l.length (Flds.fcs l)) := Lib.hid (Rec.row_below (ownsRow_setCell_other (a := ⟨w.heap.size + 1 + 1, 4, none⟩) (ownsRow_setCell_other (a := ⟨w.heap.size + 1 + 1, 3, none⟩) (ownsRow_setCell_other (a := ⟨w.heap.size + 1 + 1, 2, none⟩) HO2.out (hne2 HO2.out) _) (hne2 HO2.out) _) (hne2 HO2.out) _) hb3)
  have HO3 : Hid (w3.ownsRow (w.heap.size + 1 + 1 + 1) 84 2 (.slice a3 ps.length c3) ps.length (Pcs.fcs ps)) := Lib.hid (Rec.own_mono o3 (by omega))
  have HN := Lib.hid (And.intro (hne2 HO1.out) (And.intro (hne1 HO1.out) (And.intro (hne2 HO2.out) (And.intro (hne1 HO2.out) (And.intro (hne2 HO3.out) (hne1 HO3.out))))))
  clear z2 z3 z4 zf2 zf3 zf4 x5 hne1 hne2 o3 hb3 HZ2 HX2 HY2
  have z0 := hZ3.cell 0 _ rfl
  have z1 := hZ3.cell 1 _ rfl
  have z2 := hZ3.cell 2 _ rfl
  have z3 := hZ3.cell 3 _ rfl
  have z4 := hZ3.cell 4 _ rfl
  have z5 := hZ3.cell 5 _ rfl
  have z6 := hZ3.cell 6 _ rfl
  have z7 := hZ3.cell 7 _ rfl
  have z8 := hZ3.cell 8 _ rfl
  have z9 := hZ3.cell 9 _ rfl
  have zf5 := hZ3.frz 5
  have zf6 := hZ3.frz 6
  have zf7 := hZ3.frz 7
  have zf8 := hZ3.frz 8
  have zf9 := hZ3.frz 9
  have x6 := hX3.cell 6 _ rfl
  have x7 := hX3.cell 7 _ rfl
  have x8 := hX3.cell 8 _ rfl
  have x9 := hX3.cell 9 _ rfl
  have hZ4 := ((((hZ3.same (k := 5) (by simp) (.slice a3 ps.length c3)).same (k := 6) (by simp) (.int .i64 n)).same (k := 7) (by simp) (.int .i64 i)).same (k := 8) (by simp) (.int .i64 g)).same (k := 9) (by simp) (.int .i64 q)
  have hY4 := ((((hY3.other (g' := w.heap.size + 1 + 1) (k := 5) (by omega) (.slice a3 ps.length c3)).other (g' := w.heap.size + 1 + 1) (k := 6) (by omega) (.int .i64 n)).other (g' := w.heap.size + 1 + 1) (k := 7) (by omega) (.int .i64 i)).other (g' := w.heap.size + 1 + 1) (k := 8) (by omega) (.int .i64 g)).other (g' := w.heap.size + 1 + 1) (k := 9) (by omega) (.int .i64 q)
  have HBZ := Lib.hid (((((HB3.out.setCell (p := ⟨w.heap.size + 1 + 1, 5, none⟩) (by show w.heap.size ≤ w.heap.size + 1 + 1; omega) (.slice a3 ps.length c3)).setCell (p := ⟨w.heap.size + 1 + 1, 6, none⟩) (by show w.heap.size ≤ w.heap.size + 1 + 1; omega) (.int .i64 n)).setCell (p := ⟨w.heap.size + 1 + 1, 7, none⟩) (by show w.heap.size ≤ w.heap.size + 1 + 1; omega) (.int .i64 i)).setCell (p := ⟨w.heap.size + 1 + 1, 8, none⟩) (by show w.heap.size ≤ w.heap.size + 1 + 1; omega) (.int .i64 g)).setCell (p := ⟨w.heap.size + 1 + 1, 9, none⟩) (by show w.heap.size ≤ w.heap.size + 1 + 1; omega) (.int .i64 q))
  have HW1 : Hid ((((((w3.setCell ⟨w.heap.size + 1 + 1, 5, none⟩ (.slice a3 ps.length c3)).setCell ⟨w.heap.size + 1 + 1, 6, none⟩ (.int .i64 n)).setCell ⟨w.heap.size + 1 + 1, 7, none⟩ (.int .i64 i)).setCell ⟨w.heap.size + 1 + 1, 8, none⟩ (.int .i64 g)).setCell ⟨w.heap.size + 1 + 1, 9, none⟩ (.int .i64 q)).ownsRow (w.heap.size + 1 + 1 + 1) 110 2 (.slice a1 ls.length c1) ls.length (Flds.fcs ls)) := Lib.hid (by
    repeat (refine ownsRow_setCell_other (a := ⟨w.heap.size + 1 + 1, _, none⟩) ?_ HN.out.1 _)
    exact HO1.out)
  have HW2 : Hid ((((((w3.setCell ⟨w.heap.size + 1 + 1, 5, none⟩ (.slice a3 ps.length c3)).setCell ⟨w.heap.size + 1 + 1, 6, none⟩ (.int .i64 n)).setCell ⟨w.heap.size + 1 + 1, 7, none⟩ (.int .i64 i)).setCell ⟨w.heap.size + 1 + 1, 8, none⟩ (.int .i64 g)).setCell ⟨w.heap.size + 1 + 1, 9, none⟩ (.int .i64 q)).ownsRow (w.heap.size + 1 + 1 + 1) 110 2 (.slice a2 l.length c2) l.length (Flds.fcs l)) := Lib.hid (by
    repeat (refine ownsRow_setCell_other (a := ⟨w.heap.size + 1 + 1, _, none⟩) ?_ HN.out.2.2.1 _)
    exact HO2.out)
  have HW3 : Hid ((((((w3.setCell ⟨w.heap.size + 1 + 1, 5, none⟩ (.slice a3 ps.length c3)).setCell ⟨w.heap.size + 1 + 1, 6, none⟩ (.int .i64 n)).setCell ⟨w.heap.size + 1 + 1, 7, none⟩ (.int .i64 i)).setCell ⟨w.heap.size + 1 + 1, 8, none⟩ (.int .i64 g)).setCell ⟨w.heap.size + 1 + 1, 9, none⟩ (.int .i64 q)).ownsRow (w.heap.size + 1 + 1 + 1) 84 2 (.slice a3 ps.length c3) ps.length (Pcs.fcs ps)) := Lib.hid (by
    repeat (refine ownsRow_setCell_other (a := ⟨w.heap.size + 1 + 1, _, none⟩) ?_ HN.out.2.2.2.2.1 _)
    exact HO3.out)
  have HZ4 := Lib.hid hZ4
  have HY4 := Lib.hid hY4
  have HN1 := Lib.hid (And.intro HN.out.2.1 (And.intro HN.out.2.2.2.1 HN.out.2.2.2.2.2))
  clear hZ3 hX3 hY3 hZ4 hY4 HO1 HO2 HO3 HN HB3
  go_upto_region 10 with fail
  generalize (((((w3.setCell ⟨w.heap.size + 1 + 1, 5, none⟩ (.slice a3 ps.length c3)).setCell ⟨w.heap.size + 1 + 1, 6, none⟩ (.int .i64 n)).setCell ⟨w.heap.size + 1 + 1, 7, none⟩ (.int .i64 i)).setCell ⟨w.heap.size + 1 + 1, 8, none⟩ (.int .i64 g)).setCell ⟨w.heap.size + 1 + 1, 9, none⟩ (.int .i64 q)) = wz at HZ4 HY4 HBZ HW1 HW2 HW3 ⊢
  clear z0 z1 z2 z3 z4 z5 z6 z7 z8 z9 zf5 zf6 zf7 zf8 zf9 x6 x7 x8 x9
  have hZ := HZ4.out
  have hY := HY4.out
  have z0 := hZ.cell 0 _ rfl
  have z1 := hZ.cell 1 _ rfl
  have z2 := hZ.cell 2 _ rfl
  have z3 := hZ.cell 3 _ rfl
  have z4 := hZ.cell 4 _ rfl
  have z5 := hZ.cell 5 _ rfl
  have z6 := hZ.cell 6 _ rfl
  have z7 := hZ.cell 7 _ rfl
  have z8 := hZ.cell 8 _ rfl
  have z9 := hZ.cell 9 _ rfl
  have y0 := hY.cell 0 _ rfl
  have yf0 := hY.frz 0
  have y1 := hY.cell 1 _ rfl
  have yf1 := hY.frz 1
  have y2 := hY.cell 2 _ rfl
  have yf2 := hY.frz 2
  have y3 := hY.cell 3 _ rfl
  have yf3 := hY.frz 3
  have y4 := hY.cell 4 _ rfl
  have yf4 := hY.frz 4
  have y5 := hY.cell 5 _ rfl
  have yf5 := hY.frz 5
  have y6 := hY.cell 6 _ rfl
  have yf6 := hY.frz 6
  have y7 := hY.cell 7 _ rfl
  have yf7 := hY.frz 7
  have y8 := hY.cell 8 _ rfl
  have yf8 := hY.frz 8
  have y9 := hY.cell 9 _ rfl
  have yf9 := hY.frz 9
  clear hZ hY
  go_wp2
  refine bodyPost_ret (v := .agg #[.string ⟨k.toArray⟩, (.slice a1 ls.length c1), .int .i64 c, (.slice a2 l.length c2), .string ⟨b.toArray⟩, (.slice a3 ps.length c3), .int .i64 n, .int .i64 i, .int .i64 g, .int .i64 q]) (by simp [results, Try.results42, go_sem, y0, y1, y2, y3, y4, y5, y6, y7, y8, y9]) rfl ⟨_, _, _, rfl, ?_, ?_, ?_, ?_⟩
  · refine Rec.own_mono (B := w.heap.size + 1 + 1 + 1) ?_ (by omega)
    repeat (refine ownsRow_setCell_other (a := ⟨w.heap.size + 1, _, none⟩) ?_ HN1.out.1 _)
    exact HW1.out
  · refine Rec.own_mono (B := w.heap.size + 1 + 1 + 1) ?_ (by omega)
    repeat (refine ownsRow_setCell_other (a := ⟨w.heap.size + 1, _, none⟩) ?_ HN1.out.2.1 _)
    exact HW2.out
  · refine Rec.own_mono (B := w.heap.size + 1 + 1 + 1) ?_ (by omega)
    repeat (refine ownsRow_setCell_other (a := ⟨w.heap.size + 1, _, none⟩) ?_ HN1.out.2.2 _)
    exact HW3.out
  · repeat (refine Below.setCell (p := ⟨w.heap.size + 1, _, none⟩) ?_ (by show w.heap.size ≤ w.heap.size + 1; omega) _)
    exact HBZ.out
end Go.Proofs.Ytggokmhdmnkoiaa.Ent
