/-
  CONTRACTS AND PLAIN FACTS, several texts in one; each says in its own words what it proves.
-/
import Derived.Test.YtojmkdggkaocdaaGreatDoorPvB
import Derived.Test.YtojmkdggkaocdaaGreatDoorPvC
import Derived.Test.YtojmkdggkaocdaaGreatDoorPvD
import Derived.LoopTactic
import Derived.Outline
import Derived.RegionTactic
import Derived.Deep.RegionWith

/-
  CONTRACTS of the laws' helpers for a Resource: an argument of that type, opened; its size (szResource), a copy (toResource), the comparison of two that hold the same (eqResource). Nothing that was there before is changed.
-/
namespace Go.Proofs.YtojmkdggkaocdaaGreatDoor.Res
open Go Go.RowKit
set_option linter.unusedVariables false
set_option maxRecDepth 1000000

def rv (t c k : List UInt8) (p : Bool) (u v : Value) : Value := .agg #[.string ⟨t.toArray⟩, .string ⟨c.toArray⟩, .string ⟨k.toArray⟩, .bool p, u, v]
def Ok (t c k : List UInt8) (gs : List (List UInt8)) (vs : List Ver.T) : Prop := (t.length ≤ maxLen ∧ c.length ≤ maxLen ∧ k.length ≤ maxLen) ∧ (gs.length ≤ maxLen ∧ ∀ x ∈ gs, x.length ≤ maxLen) ∧ (vs.length ≤ maxLen ∧ ∀ f ∈ vs, Ver.Ok f)
def tot (t c k : List UInt8) (gs : List (List UInt8)) (vs : List Ver.T) : Nat := t.length + c.length + k.length + Strs.total gs + Ver.total vs
theorem open_text {H : Type} {enc : TypeId × Value → H} {W : World} {fuel : Nat} {v : Value} {x : DataW H × List MemPlace} (h : DataW.trod enc Tryz.prog W 0 (fun _ => true) true fuel 9 [v] = some x) : ∃ n : List UInt8, v = .string ⟨n.toArray⟩ ∧ n.length ≤ maxLen := by
  obtain ⟨s1, z1, _, o1⟩ := DataW.trod_string Tryz.underlying9 h
  obtain rfl : v = _ := by simpa using z1
  exact ⟨s1.data.toList, rfl, by rw [Array.length_toList]; exact o1⟩

set_option maxRecDepth 1000000 in
/-- An argument of type laws.Resource, opened. -/
theorem open_res {H : Type} {enc : TypeId × Value → H} {W : World} {base : Nat} {v : Value} {d : DataW H} {p : List MemPlace}
    (hok : Value.okWide Tryz.prog W .any base 50 v) (h : DataW.Trod enc Tryz.prog W 0 (fun _ => true) true 50 v d p) :
    ∃ (t c k : List UInt8) (q : Bool) (u : Value) (gs : List (List UInt8)) (z : Value) (vs : List Ver.T), v = .agg #[.string ⟨t.toArray⟩, .string ⟨c.toArray⟩, .string ⟨k.toArray⟩, .bool q, u, z] ∧ Strs.Holds W W.heap.size u gs ∧ Ver.Holds W W.heap.size z vs ∧ Ok t c k gs vs := by
  obtain ⟨cs', rfl, hsz⟩ := WideShapes.okWide_struct Tryz.underlying50 hok
  obtain ⟨fuel, hf⟩ := h
  have cels : Tryz.prog.cellsOf 9 = 1 := by kernel_rfl
  have celb : Tryz.prog.cellsOf 4 = 1 := by kernel_rfl
  have celf : Tryz.prog.cellsOf 47 = 1 := by kernel_rfl
  have celg : Tryz.prog.cellsOf 48 = 1 := by kernel_rfl
  have ce : Tryz.prog.cellsOf 50 = 6 := by kernel_rfl
  obtain ⟨l⟩ := cs'
  obtain ⟨xs, k, hk, hxy, _, hxl, hg⟩ := DataW.trod_struct Tryz.underlying50 hf
  match l, hsz.trans ce, xs, hxl with
  | [v0, v1, v2, v3, v4, v5], _, [y0, y1, y2, y3, y4, y5], _ =>
    have g0 := hg 0 _ rfl
    have g1 := hg 1 _ rfl
    have g2 := hg 2 _ rfl
    have g3 := hg 3 _ rfl
    have g4 := hg 4 _ rfl
    have g5 := hg 5 _ rfl
    simp [Value.cells, cels, celb, celf, celg] at g0 g1 g2 g3 g4 g5
    obtain ⟨n0, rfl, hn0⟩ := open_text g0
    obtain ⟨n1, rfl, hn1⟩ := open_text g1
    obtain ⟨n2, rfl, hn2⟩ := open_text g2
    obtain ⟨q, z3, _⟩ := DataW.trod_bool Tryz.underlying4 g3
    obtain rfl : v3 = _ := by simpa using z3
    obtain ⟨u, gs, hu, hh, hl1, hl2⟩ := Strs.open_cells g4
    obtain rfl : v4 = u := by simpa using hu
    obtain ⟨z, vs, hz, hh2, hm1, hm2⟩ := Ver.open_cells g5
    obtain rfl : v5 = z := by simpa using hz
    exact ⟨n0, n1, n2, q, v4, gs, v5, vs, by simp, hh, hh2, ⟨hn0, hn1, hn2⟩, ⟨hl1, hl2⟩, hm1, hm2⟩

set_option maxHeartbeats 1000000 in
/-- Its size: not below 0 just where it is at most what is left. -/
theorem size_res (t c k : List UInt8) (p : Bool) (u : Value) (gs : List (List UInt8)) (v : Value) (vs : List Ver.T) (left : Int) (B : Nat) (w : World) (h : Strs.Holds w B u gs) (h2 : Ver.Holds w B v vs) (hB : B ≤ w.heap.size) (hok : Ok t c k gs vs) (h0 : 0 ≤ left) (h3 : left ≤ 1048576) :
    Calls Tryz.prog 21 #[.agg #[.string ⟨t.toArray⟩, .string ⟨c.toArray⟩, .string ⟨k.toArray⟩, .bool p, u, v], .int .i64 left] w fun e w' => ∃ z : Int, e = .returned (.int .i64 z) ∧ (z < 0 ∨ (0 ≤ z ∧ z + ((tot t c k gs vs : Nat) : Int) = left)) ∧ Below w.heap.size w w' := by
  have hs0 : (⟨t.toArray⟩ : ByteArray).size = t.length := by simp [ByteArray.size]
  have hs1 : (⟨c.toArray⟩ : ByteArray).size = c.length := by simp [ByteArray.size]
  have hs2 : (⟨k.toArray⟩ : ByteArray).size = k.length := by simp [ByteArray.size]
  have HB0 := Lib.hid ((Below.refl w.heap.size w).alloc (Nat.le_refl _) (.cells #[.string ⟨t.toArray⟩, .string ⟨c.toArray⟩, .string ⟨k.toArray⟩, .bool p, u, v] 50))
  obtain ⟨⟨hm, hh, ht⟩, ⟨hg1, hg2⟩, hv1, hv2⟩ := hok
  unfold maxLen at hm hh ht
  have HTOT : Hid (tot t c k gs vs = t.length + c.length + k.length + Strs.total gs + Ver.total vs) := Lib.hid rfl
  by_cases q0 : left - (t.length : Int) < 0
  · clear h h2
    go_enter Tryz.func21, Tryz.ntmps21
    go_wp2
    go_ret
    exact ⟨_, rfl, Or.inl (by omega), HB0.out⟩
  by_cases q1 : left - (t.length : Int) - (c.length : Int) < 0
  · clear h h2
    go_enter Tryz.func21, Tryz.ntmps21
    go_wp2
    go_ret
    exact ⟨_, rfl, Or.inl (by omega), HB0.out⟩
  by_cases q2 : left - (t.length : Int) - (c.length : Int) - (k.length : Int) < 0
  · clear h h2
    go_enter Tryz.func21, Tryz.ntmps21
    go_wp2
    go_ret
    exact ⟨_, rfl, Or.inl (by omega), HB0.out⟩
  have HS := Lib.hid (Strs.sizel_any u B gs (left - (t.length : Int) - (c.length : Int) - (k.length : Int)) _ (Strs.holds_below h (HB0.out.mono hB)) hg1 hg2 (by omega) (by omega))
  have HV := Lib.hid (fun (z : Int) (hz0 : 0 ≤ z) (hz3 : z ≤ 1048576) => Ver.size_any v B vs z _ (Ver.holds_below h2 (HB0.out.mono hB)) hv1 hv2 hz0 hz3)
  have HK := Lib.hid (Kept.one (Below.refl _ (w.alloc (.cells #[.string ⟨t.toArray⟩, .string ⟨c.toArray⟩, .string ⟨k.toArray⟩, .bool p, u, v] 50))))
  clear h h2 hg1 hg2 hv1 hv2
  go_enter Tryz.func21, Tryz.ntmps21
  go_wp2_with (fail)
  go_at_call 55
  refine HS.out.mono ?_
  rintro e w1 ⟨z, rfl, hz, rfl⟩
  rcases hz with hz | ⟨hz0, hz1⟩
  · go_wp2
    go_ret
    exact ⟨_, rfl, Or.inl (by omega), HB0.out⟩
  · have hzn : ¬ z < 0 := by omega
    have HT := Lib.hid hz1
    have HV2 := Lib.hid (HV.out z hz0 (by omega))
    clear hz1
    go_wp2_with (fail)
    go_at_call 56
    refine HV2.out.mono ?_
    rintro e w2 ⟨y, rfl, hy, hb2⟩
    have HB2 := Lib.hid (HB0.out.trans (hb2.mono (by simp)))
    clear hb2
    rcases hy with hy | ⟨hy0, hy1⟩
    · go_wp2
      go_ret
      exact ⟨_, rfl, Or.inl (by omega), HB2.out⟩
    · have hyn : ¬ y < 0 := by omega
      have HT2 := Lib.hid hy1
      clear hy1
      go_wp2
      go_ret
      exact ⟨_, rfl, Or.inr ⟨by omega, by have := HT.out; have := HT2.out; have := HTOT.out; omega⟩, HB2.out⟩

theorem eq_res (t c k : List UInt8) (p : Bool) (u : Value) (gs : List (List UInt8)) (v : Value) (vs : List Ver.T) (u' v' : Value) (B B' : Nat) (w : World) (h : Strs.Holds w B u gs) (h2 : Ver.Holds w B v vs) (h' : Strs.Holds w B' u' gs) (h2' : Ver.Holds w B' v' vs) (hB : B ≤ w.heap.size) (hB' : B' ≤ w.heap.size) (hl : gs.length ≤ 1048576) (hl2 : vs.length ≤ 1048576) :
    Calls Tryz.prog 27 #[.agg #[.string ⟨t.toArray⟩, .string ⟨c.toArray⟩, .string ⟨k.toArray⟩, .bool p, u, v], .agg #[.string ⟨t.toArray⟩, .string ⟨c.toArray⟩, .string ⟨k.toArray⟩, .bool p, u', v']] w (Rec.Yes w) := by
  have HB0 := Lib.hid (((Below.refl w.heap.size w).alloc (Nat.le_refl _) (.cells #[.string ⟨t.toArray⟩, .string ⟨c.toArray⟩, .string ⟨k.toArray⟩, .bool p, u, v] 59)).alloc (by simp) (.cells #[.string ⟨t.toArray⟩, .string ⟨c.toArray⟩, .string ⟨k.toArray⟩, .bool p, u', v'] 59))
  have HS := Lib.hid (Strs.eq_same u u' B B' gs _ (Strs.holds_below h (HB0.out.mono hB)) (Strs.holds_below h' (HB0.out.mono hB')) (by omega))
  have HV := Lib.hid (fun W (hb : Below w.heap.size w W) => Ver.eq_same v v' B B' vs W (Ver.holds_below h2 (hb.mono hB)) (Ver.holds_below h2' (hb.mono hB')) hl2)
  have HK := Lib.hid (fun W => Kept.two (w := w) (w1 := W) (o := .cells #[.string ⟨t.toArray⟩, .string ⟨c.toArray⟩, .string ⟨k.toArray⟩, .bool p, u, v] 59) (T := 59) (a := #[.string ⟨t.toArray⟩, .string ⟨c.toArray⟩, .string ⟨k.toArray⟩, .bool p, u', v']))
  have HK1 := Lib.hid (fun W => Kept.one (w := w) (w1 := W) (T := 59) (a := #[.string ⟨t.toArray⟩, .string ⟨c.toArray⟩, .string ⟨k.toArray⟩, .bool p, u, v]))
  unfold Rec.Yes at HV ⊢
  clear h h' h2 h2'
  go_enter Tryz.func27, Tryz.ntmps27
  go_wp2_with (fail)
  go_at_call 65
  refine HS.out.mono ?_
  rintro e w1 ⟨rfl, hb1⟩
  have k2 := (HK.out _ hb1).1 5 _ rfl
  have k1 := (HK1.out _ (Kept.below_in hb1)).1 5 _ rfl
  have HBW := Lib.hid (HB0.out.trans (hb1.mono HB0.out.size))
  clear hb1
  go_wp2_with (fail)
  go_at_call 66
  refine (HV.out _ HBW.out).mono ?_
  rintro e w2 ⟨rfl, hb2⟩
  have HBX := Lib.hid (Base.then_below HBW.out hb2)
  clear hb2
  go_wp2
  go_ret
  exact ⟨rfl, HBX.out⟩
end Go.Proofs.YtojmkdggkaocdaaGreatDoor.Res

/-
  CONTRACT of the laws' toResource: a copy whose lists are the call's own. Nothing that was there before is changed.
-/
namespace Go.Proofs.YtojmkdggkaocdaaGreatDoor.Res
open Go Go.RowKit
set_option linter.unusedVariables false
set_option maxRecDepth 1000000

def Copied (t c k : List UInt8) (p : Bool) (gs : List (List UInt8)) (vs : List Ver.T) (w : World) (e : Ending) (w' : World) : Prop := ∃ u v, e = .returned (.agg #[.string ⟨t.toArray⟩, .string ⟨c.toArray⟩, .string ⟨k.toArray⟩, .bool p, u, v]) ∧ Strs.Own w' w.heap.size u gs ∧ Ver.Own w' w.heap.size v vs ∧ Below w.heap.size w w'
theorem sown_mono {w : World} {B B' : Nat} {v : Value} {xs : List (List UInt8)} (h : Strs.Own w B v xs) (hB : B' ≤ B) : Strs.Own w B' v xs := Rec.own_mono h hB
theorem sown_below {w w' : World} {B : Nat} {v : Value} {xs : List (List UInt8)} (h : Strs.Own w B v xs) (hb : Below w.heap.size w w') : Strs.Own w' B v xs := Rec.row_below h hb

theorem keep_set {w1 w2 : World} {g o b j : Nat} {v u : Value} (hb2 : Below (w1.setCell ⟨g, o, none⟩ v).heap.size (w1.setCell ⟨g, o, none⟩ v) w2) (hq : w1.cell? ⟨b, j, none⟩ = some u) (hne : ¬ (g = b ∧ o = j)) : w2.cell? ⟨b, j, none⟩ = some u := by
  rw [hb2.cell (p := ⟨b, j, none⟩) (by rw [World.size_setCell]; exact Rec.lt_of_cell hq), World.cell?_setCell_other _ _ _ _ (fun e => hne (by cases e; exact ⟨rfl, rfl⟩))]; exact hq
theorem at_set {w1 w2 : World} {g o : Nat} {v u : Value} (hb2 : Below (w1.setCell ⟨g, o, none⟩ v).heap.size (w1.setCell ⟨g, o, none⟩ v) w2) (hq : w1.cell? ⟨g, o, none⟩ = some u) : w2.cell? ⟨g, o, none⟩ = some v := by
  rw [hb2.cell (p := ⟨g, o, none⟩) (by rw [World.size_setCell]; exact Rec.lt_of_cell hq), World.cell?_setCell_same _ _ _ hq]
theorem frz_set {w1 w2 : World} {g o b j : Nat} {v u : Value} (hb2 : Below (w1.setCell ⟨g, o, none⟩ v).heap.size (w1.setCell ⟨g, o, none⟩ v) w2) (hq : w1.cell? ⟨b, j, none⟩ = some u) (hf : w1.frozen? ⟨b, j, none⟩ = false) : w2.frozen? ⟨b, j, none⟩ = false := by
  rw [hb2.frozen (p := ⟨b, j, none⟩) (by rw [World.size_setCell]; exact Rec.lt_of_cell hq), World.frozen?_setCell]; exact hf

set_option maxHeartbeats 4000000 in
theorem copy_res (t c k : List UInt8) (p : Bool) (u : Value) (gs : List (List UInt8)) (v : Value) (vs : List Ver.T) (B : Nat) (w : World) (h : Strs.Holds w B u gs) (h2 : Ver.Holds w B v vs) (hB : B ≤ w.heap.size) (hl : gs.length ≤ 1048576) (hl2 : vs.length ≤ 1048576) :
    Calls Tryz.prog 24 #[.agg #[.string ⟨t.toArray⟩, .string ⟨c.toArray⟩, .string ⟨k.toArray⟩, .bool p, u, v]] w (Copied t c k p gs vs w) := by
  have HB0 := Lib.hid ((((Below.refl w.heap.size w).alloc (Nat.le_refl _) (.cells #[.string ⟨t.toArray⟩, .string ⟨c.toArray⟩, .string ⟨k.toArray⟩, .bool p, u, v] 50)).alloc (by simp) (.cells #[.string ⟨#[]⟩, .string ⟨#[]⟩, .string ⟨#[]⟩, .bool false, .slice none 0 0, .slice none 0 0] 59)).alloc (by simp; omega) (.cells #[.string ⟨t.toArray⟩, .string ⟨c.toArray⟩, .string ⟨k.toArray⟩, .bool p, .slice none 0 0, .slice none 0 0] 59))
  have HS := Lib.hid (Strs.copy u B gs _ (Strs.holds_below h (HB0.out.mono hB)) (by omega))
  have HV := Lib.hid (fun W (hb : Below w.heap.size w W) => Ver.copy v B vs W (Ver.holds_below h2 (hb.mono hB)) hl2)
  unfold Copied
  clear h h2
  go_enter Tryz.func24, Tryz.ntmps24
  go_wp2_with (fail)
  go_at_call 60
  refine HS.out.mono ?_
  rintro e w1 ⟨x, rfl, ho', hb1⟩
  obtain ⟨a, cap, rfl, _⟩ := Rec.shape_at ho'
  have hk3 := Kept.three hb1
  have hk2 := Kept.two (Kept.below_in hb1)
  have hk1 := Kept.one (Kept.below_in (Kept.below_in hb1))
  have q0 := hk3.1 0 _ rfl
  have q1 := hk3.1 1 _ rfl
  have q2 := hk3.1 2 _ rfl
  have q3 := hk3.1 3 _ rfl
  have q4 := hk3.1 4 _ rfl
  have q5 := hk3.1 5 _ rfl
  have x5 := hk1.1 5 _ rfl
  have fs4 := hk3.2 4
  have fs5 := hk3.2 5
  have r0 := hk2.1 0 _ rfl
  have r1 := hk2.1 1 _ rfl
  have r2 := hk2.1 2 _ rfl
  have r3 := hk2.1 3 _ rfl
  have r4 := hk2.1 4 _ rfl
  have r5 := hk2.1 5 _ rfl
  have fr0 := hk2.2 0
  have fr1 := hk2.2 1
  have fr2 := hk2.2 2
  have fr3 := hk2.2 3
  have fr4 := hk2.2 4
  have fr5 := hk2.2 5
  have HBW := Lib.hid (HB0.out.trans (hb1.mono HB0.out.size))
  have HOX := Lib.hid ho'
  clear ho' hb1 hk3 hk2 hk1
  have HVX := Lib.hid (HV.out (w1.setCell ⟨w.heap.size + 1 + 1, 4, none⟩ (.slice a gs.length cap)) (HBW.out.setCell (by show w.heap.size ≤ w.heap.size + 1 + 1; omega) _))
  go_wp2_with (fail)
  go_at_call 61
  refine HVX.out.mono ?_
  rintro e w2 ⟨y, rfl, ho2, hb2⟩
  obtain ⟨a2, cap2, rfl, _⟩ := Rec.shape_at ho2
  have HSZ : Hid (w.heap.size + 1 + 1 < w1.heap.size) := Lib.hid (Rec.lt_of_cell q0)
  have hw2 : w1.heap.size ≤ w2.heap.size := by have := hb2.size; rw [World.size_setCell] at this; exact this
  have HB3 := Lib.hid (Base.then_below (HBW.out.setCell (p := ⟨w.heap.size + 1 + 1, 4, none⟩) (by show w.heap.size ≤ w.heap.size + 1 + 1; omega) (.slice a gs.length cap)) hb2)
  have HOY := Lib.hid ho2
  have HOX2 : Hid (w2.ownsRow (w.heap.size + 1 + 1 + 1) 9 1 (.slice a gs.length cap) gs.length (Strs.svs gs)) := Lib.hid (Rec.row_below (ownsRow_setCell_other (a := ⟨w.heap.size + 1 + 1, 4, none⟩) (Rec.own_mono HOX.out (by simp)) (fun e => by have h9 := (HOX.out.lt _ e).1; simp at h9; omega) _) hb2)
  have p0 := keep_set hb2 q0 (by omega)
  have p1 := keep_set hb2 q1 (by omega)
  have p2 := keep_set hb2 q2 (by omega)
  have p3 := keep_set hb2 q3 (by omega)
  have p5 := keep_set hb2 q5 (by omega)
  have p4 := at_set hb2 q4
  have ps5 := frz_set hb2 q5 fs5
  have t0 := keep_set hb2 r0 (by omega)
  have tf0 := frz_set hb2 r0 fr0
  have t1 := keep_set hb2 r1 (by omega)
  have tf1 := frz_set hb2 r1 fr1
  have t2 := keep_set hb2 r2 (by omega)
  have tf2 := frz_set hb2 r2 fr2
  have t3 := keep_set hb2 r3 (by omega)
  have tf3 := frz_set hb2 r3 fr3
  have t4 := keep_set hb2 r4 (by omega)
  have tf4 := frz_set hb2 r4 fr4
  have t5 := keep_set hb2 r5 (by omega)
  have tf5 := frz_set hb2 r5 fr5
  clear q0 q1 q2 q3 q4 q5 r0 r1 r2 r3 r4 r5 fs4 fs5 fr0 fr1 fr2 fr3 fr4 fr5 x5 HOX HVX hb2 ho2
  go_wp2
  refine bodyPost_ret (v := .agg #[.string ⟨t.toArray⟩, .string ⟨c.toArray⟩, .string ⟨k.toArray⟩, .bool p, .slice a gs.length cap, .slice a2 vs.length cap2]) (by simp [results, Tryz.results24, go_sem, t0, t1, t2, t3, t4, t5]) rfl ⟨_, _, rfl, ?_, ?_, ?_⟩
  · have hno : ∀ k, Value.ownBlock (.slice a gs.length cap) = some k → w.heap.size + 1 + 1 < k := fun k e => by have h9 := (HOX2.out.lt k e).1; omega
    have e2 : Value.ownBlock (.slice a gs.length cap) ≠ some (w.heap.size + 1 + 1) := fun e => by have := hno _ e; omega
    have e1 : Value.ownBlock (.slice a gs.length cap) ≠ some (w.heap.size + 1) := fun e => by have := hno _ e; omega
    exact Rec.own_mono (ownsRow_setCell_other (a := ⟨w.heap.size + 1, 5, none⟩) (ownsRow_setCell_other (a := ⟨w.heap.size + 1, 4, none⟩) (ownsRow_setCell_other (a := ⟨w.heap.size + 1, 3, none⟩) (ownsRow_setCell_other (a := ⟨w.heap.size + 1, 2, none⟩) (ownsRow_setCell_other (a := ⟨w.heap.size + 1, 1, none⟩) (ownsRow_setCell_other (a := ⟨w.heap.size + 1, 0, none⟩) (ownsRow_setCell_other (a := ⟨w.heap.size + 1 + 1, 5, none⟩) HOX2.out e2 _) e1 _) e1 _) e1 _) e1 _) e1 _) e1 _) (by omega)
  · have hno : ∀ k, Value.ownBlock (.slice a2 vs.length cap2) = some k → w.heap.size + 1 + 1 < k := fun k e => by
      have h9 := (HOY.out.lt k e).1
      rw [World.size_setCell] at h9
      have h8 := HSZ.out
      omega
    have e2 : Value.ownBlock (.slice a2 vs.length cap2) ≠ some (w.heap.size + 1 + 1) := fun e => by have := hno _ e; omega
    have e1 : Value.ownBlock (.slice a2 vs.length cap2) ≠ some (w.heap.size + 1) := fun e => by have := hno _ e; omega
    exact Rec.own_mono (ownsRow_setCell_other (a := ⟨w.heap.size + 1, 5, none⟩) (ownsRow_setCell_other (a := ⟨w.heap.size + 1, 4, none⟩) (ownsRow_setCell_other (a := ⟨w.heap.size + 1, 3, none⟩) (ownsRow_setCell_other (a := ⟨w.heap.size + 1, 2, none⟩) (ownsRow_setCell_other (a := ⟨w.heap.size + 1, 1, none⟩) (ownsRow_setCell_other (a := ⟨w.heap.size + 1, 0, none⟩) (ownsRow_setCell_other (a := ⟨w.heap.size + 1 + 1, 5, none⟩) HOY.out e2 _) e1 _) e1 _) e1 _) e1 _) e1 _) e1 _) (by rw [World.size_setCell]; have h8 := HSZ.out; omega)
  · exact ((((((HB3.out.setCell (p := ⟨w.heap.size + 1 + 1, 5, none⟩) (by show w.heap.size ≤ w.heap.size + 1 + 1; omega) _).setCell (p := ⟨w.heap.size + 1, 0, none⟩) (by show w.heap.size ≤ w.heap.size + 1; omega) _).setCell (p := ⟨w.heap.size + 1, 1, none⟩) (by show w.heap.size ≤ w.heap.size + 1; omega) _).setCell (p := ⟨w.heap.size + 1, 2, none⟩) (by show w.heap.size ≤ w.heap.size + 1; omega) _).setCell (p := ⟨w.heap.size + 1, 3, none⟩) (by show w.heap.size ≤ w.heap.size + 1; omega) _).setCell (p := ⟨w.heap.size + 1, 4, none⟩) (by show w.heap.size ≤ w.heap.size + 1; omega) _).setCell (p := ⟨w.heap.size + 1, 5, none⟩) (by show w.heap.size ≤ w.heap.size + 1; omega) _
end Go.Proofs.YtojmkdggkaocdaaGreatDoor.Res

/-
  CONTRACTS of the laws' helpers for slices of fields: a copy (toField, toFieldS). Nothing that was there before is changed.
-/
namespace Go.Proofs.YtojmkdggkaocdaaGreatDoor.Flds
open Go Go.RowKit
set_option linter.unusedVariables false
set_option maxRecDepth 1000000

theorem copy_one (f : Fld) (w : World) : Calls Tryz.prog 86 #[fv f] w fun e w' => e = .returned (fv f) ∧ Below w.heap.size w w' := by
  obtain ⟨x, y⟩ := f
  unfold fv sv
  obtain ⟨s, hs⟩ : ∃ s : ByteArray, s = ⟨x.toArray⟩ := ⟨_, rfl⟩
  obtain ⟨t, ht⟩ : ∃ t : ByteArray, t = ⟨y.toArray⟩ := ⟨_, rfl⟩
  simp only
  rw [← hs, ← ht]
  clear hs ht
  go_enter Tryz.func86, Tryz.ntmps86
  go_wp2
  refine bodyPost_ret (v := .agg #[.string s, .string t]) (by simp [results, Tryz.results86, go_sem]) rfl ⟨rfl, ?_⟩
  exact (((Below.refl _ _).alloc (Nat.le_refl _) _).alloc (by simp) _).alloc (by simp; omega) _
theorem copy_two (x y : List UInt8) (w : World) : Calls Tryz.prog 86 #[.agg #[.string ⟨x.toArray⟩, .string ⟨y.toArray⟩]] w fun e w' => e = .returned (.agg #[.string ⟨x.toArray⟩, .string ⟨y.toArray⟩]) ∧ Below w.heap.size w w' := copy_one (x, y) w

def Copied (l : List Fld) (w : World) (e : Ending) (w' : World) : Prop := ∃ v, e = .returned v ∧ Own w' w.heap.size v l ∧ Below w.heap.size w w'
/-- .. and the slice is not nil. -/
def Copied' (l : List Fld) (w : World) (e : Ending) (w' : World) : Prop := ∃ v, e = .returned v ∧ Own w' w.heap.size v l ∧ Below w.heap.size w w' ∧ ∃ g cap, v = .slice (some ⟨g, 0, none⟩) l.length cap

theorem copy_nil (a : Option Addr) (cap : Nat) (w : World) :
    Calls Tryz.prog 41 #[.slice a 0 cap] w (Copied' [] w) := by
  obtain ⟨i0, hi, hz0, hz1, hz2⟩ := info_parts info_fld
  go_enter Tryz.func41, Tryz.ntmps41
  go_wp2_with (refine wpList_make_full _ (by rfl) (.tmp 6) (.tmp 6) 28 (by rfl) w.heap.size 119 i0 (.agg #[.string ⟨#[]⟩, .string ⟨#[]⟩]) 2 Tryz.underlying28 hi hz0 hz1 .i64 .i64 _ _ 0 (by rfl) (by rfl) rfl rfl (by rw [hz2]; omega) (by decide) (Nat.le_refl _) ?_; intro w1 hown hgrow)
  have e := made_part []
  rw [show ([] : List Fld).length * 2 = 0 * 2 from rfl, show fcs (part [] 0) = fcs [] from rfl] at e
  rw [e] at hown
  clear e
  go_loop [4] (fun i => i = .int .i64 0) (fun i => 0)
  case atStart => rfl
  case round =>
    obtain rfl := hrel
    go_wp2
    go_ret
    exact ⟨_, rfl, hown, (Below.refl _ _).grown hgrow (Nat.le_refl _) (fun k e => by cases e), ⟨_, _, rfl⟩⟩

set_option maxHeartbeats 1000000 in
theorem copy_some (b off cap : Nat) (l : List Fld) (w : World) (hc : At w b off l) (h0 : 0 < l.length) (hl : l.length ≤ 1048576) :
    Calls Tryz.prog 41 #[.slice (some ⟨b, off, none⟩) l.length cap] w (Copied' l w) := by
  obtain ⟨i0, hi, hz0, hz1, hz2⟩ := info_parts info_fld
  have hbl := at_lt hc h0
  have HC := Lib.hid hc
  clear hc
  go_enter Tryz.func41, Tryz.ntmps41
  go_wp2_with (at_make; refine wpList_make_full _ rfl (.tmp 6) (.tmp 6) 28 rfl w.heap.size 119 i0 (.agg #[.string ⟨#[]⟩, .string ⟨#[]⟩]) 2 Tryz.underlying28 hi hz0 hz1 .i64 .i64 _ _ l.length rfl rfl rfl rfl (by rw [hz2]; omega) (by unfold maxLen; omega) (Nat.le_refl _) ?_; intro w1 hown hgrow)
  rw [made_part] at hown
  have hb1 : Below w.heap.size w w1 := (Below.refl _ _).grown hgrow (Nat.le_refl _) (fun k e => by cases e)
  clear hgrow hi hz0 hz1 hz2
  have HO := Lib.hid hown
  clear hown
  go_loopw [4] (fun i wr => ∃ k : Nat, k ≤ l.length ∧ i = .int .i64 k ∧
      wr.ownsRow w.heap.size 119 2 (.slice (some ⟨w.heap.size, 0, none⟩) l.length l.length) l.length (fcs (part l k)) ∧ Below w.heap.size w wr) (fun i _ => l.length - (intOf i).toNat)
  case atStart => exact ⟨0, Nat.zero_le _, rfl, HO.out, hb1⟩
  case round =>
    obtain ⟨k, hk, rfl, hown, hb⟩ := hrel
    clear HO hb1
    by_cases hlt : k < l.length
    · obtain ⟨c1, c2⟩ := at_below HC.out hb hbl k hlt
      have HP := Lib.hid (part_more hlt)
      have HO := Lib.hid hown
      have HB := Lib.hid hb
      clear hown hb
      generalize hy : l.getD k nofld = f at c1 c2 HP
      clear hy
      obtain ⟨x, y⟩ := f
      unfold sv at c1 c2
      go_wp2_with (go_at_call 86; refine (copy_two x y wr).mono ?_; rintro e w' ⟨rfl, hb1⟩; have HB1 := Lib.hid (Base.then_below HB.out (hb1.mono (Nat.le_refl _))); have hr1 := row_below HO.out hb1; have HL1 := hr1.1; obtain ⟨d1, d2⟩ := own_cell hr1 hlt; have f1 := hr1.frozenAt (k * 2); have f2 := hr1.frozenAt (k * 2 + 1); have HR1 := Lib.hid hr1; clear hr1 hb1; unfold sv at d1 d2)
      have s1 := HR1.out.stored (k * 2) (sv x)
      have s2 := s1.1.stored (k * 2 + 1) (sv y)
      rw [fcs_set _ _ (x, y), HP.out] at s2
      have hz1 := HB1.out.size
      have hz2 := s1.2.size
      have hbb := (HB1.out.grown s1.2 hz1 (fun j e => by cases e; exact Nat.le_refl _)).grown s2.2 (by omega) (fun j e => by cases e; exact Nat.le_refl _)
      go_roundw
      case rel => exact ⟨k + 1, by omega, by go_num, s2.1, hbb⟩
      case measure => simp [intOf]; omega
    · obtain rfl : k = l.length := by omega
      rw [part_all] at hown
      go_wp2
      go_ret
      exact ⟨_, rfl, hown, hb, ⟨_, _, rfl⟩⟩

theorem copy' (v : Value) (B : Nat) (l : List Fld) (w : World) (h : Holds w B v l) (hl : l.length ≤ 1048576) :
    Calls Tryz.prog 41 #[v] w (Copied' l w) := by
  rcases h with ⟨rfl, a, cap, rfl⟩ | ⟨h0, b, off, cap, rfl, _, _, hc⟩
  · exact copy_nil a cap w
  · exact copy_some b off cap l w hc h0 hl
theorem copy (v : Value) (B : Nat) (l : List Fld) (w : World) (h : Holds w B v l) (hl : l.length ≤ 1048576) :
    Calls Tryz.prog 41 #[v] w (Copied l w) :=
  (copy' v B l w h hl).mono fun e w' ⟨v', h1, h2, h3, _⟩ => ⟨v', h1, h2, h3⟩
end Go.Proofs.YtojmkdggkaocdaaGreatDoor.Flds

/-
  CONTRACT of the laws' comparison of two slices of fields (eqFieldS): where both hold the same fields it returns true; nothing that was there before is changed.
-/
namespace Go.Proofs.YtojmkdggkaocdaaGreatDoor.Flds
open Go Go.RowKit
set_option linter.unusedVariables false
set_option maxRecDepth 1000000

def Yes (w : World) (e : Ending) (w' : World) : Prop := e = .returned (.bool true) ∧ Below w.heap.size w w'
theorem below_drew {B : Nat} {a w : World} (h : Below B a w) : Below B a w.drew := ⟨h.os, h.tape, h.output, h.size, h.block⟩

theorem eq_one (s t : ByteArray) (w : World) : Calls Tryz.prog 94 #[.agg #[.string s, .string t], .agg #[.string s, .string t]] w (Yes w) := by
  go_enter Tryz.func94, Tryz.ntmps94
  go_wp2
  go_ret
  exact ⟨rfl, ((Below.refl _ _).alloc (Nat.le_refl _) _).alloc (by simp) _⟩

theorem eq_nil (a a' : Option Addr) (cap cap' : Nat) (w : World) :
    Calls Tryz.prog 48 #[.slice a 0 cap, .slice a' 0 cap'] w (Yes w) := by
  go_enter Tryz.func48, Tryz.ntmps48
  go_wp2
  go_loop [5] (fun i => i = .int .i64 0) (fun i => 0)
  case atStart => rfl
  case round =>
    obtain rfl := hrel
    go_wp2
    go_ret
    exact ⟨rfl, Below.refl _ _⟩

set_option maxHeartbeats 1000000 in
theorem eq_some (b off cap b' off' cap' : Nat) (l : List Fld) (w : World) (hc : At w b off l) (hc' : At w b' off' l) (h0 : 0 < l.length) (hl : l.length ≤ 4194304) :
    Calls Tryz.prog 48 #[.slice (some ⟨b, off, none⟩) l.length cap, .slice (some ⟨b', off', none⟩) l.length cap'] w (Yes w) := by
  have hbl := at_lt hc h0
  have hbl' := at_lt hc' h0
  have HC := Lib.hid hc
  have HC' := Lib.hid hc'
  clear hc hc'
  go_enter Tryz.func48, Tryz.ntmps48
  go_wp2
  go_loopw [5] (fun i wr => ∃ k : Nat, k ≤ l.length ∧ i = .int .i64 k ∧ Below w.heap.size w wr) (fun i _ => l.length - (intOf i).toNat)
  case atStart => exact ⟨0, Nat.zero_le _, rfl, Below.refl _ _⟩
  case round =>
    obtain ⟨k, hk, rfl, hb⟩ := hrel
    by_cases hlt : k < l.length
    · have cc := at_below HC.out (below_drew hb) hbl k hlt
      have cc' := at_below HC'.out (below_drew hb) hbl' k hlt
      unfold sv at cc cc'
      obtain ⟨s, hs⟩ : ∃ z : ByteArray, z = ⟨(l.getD k nofld).1.toArray⟩ := ⟨_, rfl⟩
      obtain ⟨t, ht⟩ : ∃ z : ByteArray, z = ⟨(l.getD k nofld).2.toArray⟩ := ⟨_, rfl⟩
      rw [← hs, ← ht] at cc cc'
      clear hs ht
      obtain ⟨c1, c2⟩ := cc
      obtain ⟨c1', c2'⟩ := cc'
      have HB := Lib.hid (below_drew hb)
      clear hb
      go_wp2
      go_region_with (go_at_call 94; refine (eq_one s t wr.drew).mono ?_; rintro e wt ⟨rfl, hb1⟩; have HB1 := Lib.hid (Base.then_below HB.out hb1); clear hb1)
      all_goals go_wp2
      all_goals go_roundw
      all_goals first
        | exact ⟨k + 1, by omega, by go_num, HB1.out⟩
        | (simp [intOf]; omega)
    · go_wp2
      go_ret
      exact ⟨rfl, hb⟩

theorem eq_wide (v v' : Value) (B B' : Nat) (l : List Fld) (w : World) (h : Holds w B v l) (h' : Holds w B' v' l) (hl : l.length ≤ 4194304) :
    Calls Tryz.prog 48 #[v, v'] w (Yes w) := by
  rcases h with ⟨rfl, a, cap, rfl⟩ | ⟨h0, b, off, cap, rfl, _, _, hc⟩
  · rcases h' with ⟨_, a', cap', rfl⟩ | ⟨h0, _⟩
    · exact eq_nil a a' cap cap' w
    · exact absurd h0 (by simp)
  · rcases h' with ⟨rfl, _⟩ | ⟨_, b', off', cap', rfl, _, _, hc'⟩
    · exact absurd h0 (by simp)
    · exact eq_some b off cap b' off' cap' l w hc hc' h0 hl
theorem eq_same (v v' : Value) (B B' : Nat) (l : List Fld) (w : World) (h : Holds w B v l) (h' : Holds w B' v' l) (hl : l.length ≤ 1048576) :
    Calls Tryz.prog 48 #[v, v'] w (Yes w) := eq_wide v v' B B' l w h h' (Nat.le_trans hl (by decide))
end Go.Proofs.YtojmkdggkaocdaaGreatDoor.Flds
