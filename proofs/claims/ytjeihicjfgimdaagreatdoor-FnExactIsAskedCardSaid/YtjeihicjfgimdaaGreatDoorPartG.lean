/-
  CONTRACTS AND PLAIN FACTS, several texts in one; each says in its own words what it proves.
-/
import Derived.Test.YtjeihicjfgimdaaGreatDoorPartD
import Derived.Test.YtjeihicjfgimdaaGreatDoorPartE
import Derived.Test.YtjeihicjfgimdaaGreatDoorPartF
import Derived.LoopTactic
import Derived.Outline
set_option linter.unusedSimpArgs false
set_option linter.unusedVariables false

/-
  CONTRACTS of the laws' helpers for a Given (written by stk.py): an argument of that type, opened; its size, the comparison of two that hold the same. Nothing that was there before is changed.
-/
namespace Go.Proofs.YtjeihicjfgimdaaGreatDoor.Giv
open Go Go.RowKit
set_option linter.unusedVariables false
set_option maxRecDepth 1000000
set_option maxRecDepth 1000000

def Ok (n : Int) (m : List UInt8) (ho : List UInt8) (t : List UInt8) (l : List Flds.Fld) (c : Int) (lx : List Flds.Fld) (b : List UInt8) (a : Int) (ps : List Pur.T) : Prop := (Lit.int .i64 n).wf = true ∧ Msg.Ok_req m ho t l ∧ Msg.Ok_rsp c lx b ∧ (Lit.int .i64 a).wf = true ∧ (ps.length ≤ maxLen ∧ ∀ f ∈ ps, Pur.Ok f)
def tot (m : List UInt8) (ho : List UInt8) (t : List UInt8) (l : List Flds.Fld) (lx : List Flds.Fld) (b : List UInt8) (ps : List Pur.T) : Nat := (Flds.total l + m.length + ho.length + t.length) + (Flds.total lx + b.length) + Pur.total ps
theorem req_cells {H : Type} {enc : TypeId × Value → H} {W : World} {fuel : Nat} {v0 v1 v2 v3 : Value} {x : DataW H × List MemPlace}
    (hf : DataW.trod enc Tryz.prog W 0 (fun _ => true) true fuel 24 [v0, v1, v2, v3] = some x) :
    ∃ (m ho t : List UInt8) (l : List Flds.Fld), v0 = .string ⟨m.toArray⟩ ∧ v1 = .string ⟨ho.toArray⟩ ∧ v2 = .string ⟨t.toArray⟩ ∧ Flds.Holds W W.heap.size v3 l ∧ Msg.Ok_req m ho t l := by
  have cels : Tryz.prog.cellsOf 9 = 1 := by kernel_rfl
  have celf : Tryz.prog.cellsOf 22 = 1 := by kernel_rfl
  obtain ⟨xs, k, hk, hxy, _, hxl, hg⟩ := DataW.trod_struct Tryz.underlying24 hf
  match xs, hxl with
  | [y0, y1, y2, y3], _ =>
    have g0 := hg 0 _ rfl
    have g1 := hg 1 _ rfl
    have g2 := hg 2 _ rfl
    have g3 := hg 3 _ rfl
    simp [Value.cells, cels, celf] at g0 g1 g2 g3
    obtain ⟨n0, rfl, hn0⟩ := Msg.open_text g0
    obtain ⟨n1, rfl, hn1⟩ := Msg.open_text g1
    obtain ⟨n2, rfl, hn2⟩ := Msg.open_text g2
    obtain ⟨u, fl, hu, hh, hl1, hl2⟩ := Flds.open_cells g3
    obtain rfl : v3 = u := by simpa using hu
    exact ⟨n0, n1, n2, fl, rfl, rfl, rfl, hh, hn0, hn1, hn2, hl1, hl2⟩
theorem rsp_cells {H : Type} {enc : TypeId × Value → H} {W : World} {fuel : Nat} {v0 v1 v2 : Value} {x : DataW H × List MemPlace}
    (hf : DataW.trod enc Tryz.prog W 0 (fun _ => true) true fuel 26 [v0, v1, v2] = some x) :
    ∃ (c : Int) (l : List Flds.Fld) (b : List UInt8), v0 = .int .i64 c ∧ v2 = .string ⟨b.toArray⟩ ∧ Flds.Holds W W.heap.size v1 l ∧ Msg.Ok_rsp c l b := by
  have celi : Tryz.prog.cellsOf 3 = 1 := by kernel_rfl
  have cels : Tryz.prog.cellsOf 9 = 1 := by kernel_rfl
  have celf : Tryz.prog.cellsOf 22 = 1 := by kernel_rfl
  obtain ⟨xs, k, hk, hxy, _, hxl, hg⟩ := DataW.trod_struct Tryz.underlying26 hf
  match xs, hxl with
  | [y0, y1, y2], _ =>
    have g0 := hg 0 _ rfl
    have g1 := hg 1 _ rfl
    have g2 := hg 2 _ rfl
    simp [Value.cells, celi, cels, celf] at g0 g1 g2
    obtain ⟨c, z0, _, o0⟩ := DataW.trod_int Tryz.underlying3 g0
    obtain rfl : v0 = _ := by simpa using z0
    obtain ⟨u, fl, hu, hh, hl1, hl2⟩ := Flds.open_cells g1
    obtain rfl : v1 = u := by simpa using hu
    obtain ⟨n, rfl, hn⟩ := Msg.open_text g2
    exact ⟨c, fl, n, rfl, rfl, hh, Msg.wf_range o0, ⟨hl1, hl2⟩, hn⟩
/-- A slice of Purge that stands in one cell, opened. -/
theorem cells_Pur {H : Type} {enc : TypeId × Value → H} {W : World} {fuel : Nat} {cs0 : List Value} {x : DataW H × List MemPlace}
    (hf : DataW.trod enc Tryz.prog W 0 (fun _ => true) true fuel 27 cs0 = some x) :
    ∃ (v : Value) (l : List Pur.T), cs0 = [v] ∧ Pur.Holds W W.heap.size v l ∧ l.length ≤ maxLen ∧ (∀ f ∈ l, Pur.Ok f) := by
  have celi : Tryz.prog.cellsOf 3 = 1 := by kernel_rfl
  have cels : Tryz.prog.cellsOf 9 = 1 := by kernel_rfl
  have ce : Tryz.prog.cellsOf 88 = 3 := by kernel_rfl
  rcases Deep.open_slice Tryz.underlying27 hf with ⟨hcs, hx⟩ | ⟨a, len', cap', m, n, D, Pl, hcs, _, hl, hm, hmm, hx, hall⟩
  · exact ⟨_, [], hcs, Or.inl ⟨rfl, _, _, rfl⟩, Nat.zero_le _, fun f hf => by cases hf⟩
  · simp only [if_true] at hmm
    subst hmm
    have each : ∀ i, i < m → ∃ f : Pur.T, (∀ k u, (Pur.cs f)[k]? = some u → W.cell? (a.add (i * 3 + k)) = some u) ∧ Pur.Ok f := fun i hi => by
      obtain ⟨cs', h1, h2⟩ := hall i hi
      rw [ce] at h1
      obtain ⟨_, hlen, hcell⟩ := World.cells?_some h1
      obtain ⟨xs, k, hk, hxy, _, hxl, hf⟩ := DataW.trod_struct Tryz.underlying88 h2
      match xs, hxl, cs', hlen with
      | [y0, y1, y2], _, [v0, v1, v2], _ =>
      have g0 := hf 0 _ rfl
      have g1 := hf 1 _ rfl
      have g2 := hf 2 _ rfl
      simp [celi, cels] at g0 g1 g2
      have e0 := hcell 0 (by omega)
      have e1 := hcell 1 (by omega)
      have e2 := hcell 2 (by omega)
      rw [Deep.add_add] at e0 e1 e2
      obtain ⟨s0, z0, _, o0⟩ := DataW.trod_int Tryz.underlying3 g0
      obtain rfl : v0 = _ := by simpa using z0
      obtain ⟨s1, z1, _, o1⟩ := DataW.trod_int Tryz.underlying3 g1
      obtain rfl : v1 = _ := by simpa using z1
      obtain ⟨s2, z2, _, o2⟩ := DataW.trod_string Tryz.underlying9 g2
      obtain rfl : v2 = _ := by simpa using z2
      refine ⟨(s0, s1, s2.data.toList), fun k u hu => ?_, ⟨(Msg.wf_range o0), (Msg.wf_range o1), (by show s2.data.toList.length ≤ maxLen; rw [Array.length_toList]; exact o2)⟩⟩
      match k, hu with
      | 0, hu => exact e0.trans hu
      | 1, hu => exact e1.trans hu
      | 2, hu => exact e2.trans hu
      | k + 3, hu => simp [Pur.cs] at hu
    obtain ⟨G, hG⟩ := Deep.choose_lt (α := Pur.T) each
    have hln : ((List.range len').map G).length = len' := by simp
    have hget : ∀ j, j < len' → ((List.range len').map G).getD j Pur.nov = G j := fun j hj => by simp [List.getD, hj]
    refine ⟨_, (List.range len').map G, hcs, ?_, by rw [hln]; omega, ?_⟩
    · by_cases hl0 : len' = 0
      · subst hl0; exact Or.inl ⟨by simp, _, _, rfl⟩
      · obtain ⟨b, off, spot⟩ := a
        have hspot : spot = none := by simpa [Addr.add] using World.cell?_spot ((hG 0 (by omega)).1 0 _ rfl)
        subst hspot
        have hc : Pur.At W b off ((List.range len').map G) := fun j hj i u hu => by
          rw [hln] at hj
          rw [hget j hj] at hu
          rw [Nat.add_assoc, ← WideShapes.add_plain]
          exact (hG j (by omega)).1 i u hu
        exact Or.inr ⟨by omega, b, off, _, by rw [hln], Pur.at_lt hc (by omega), by omega, hc⟩
    · intro f hf
      obtain ⟨i, hi, rfl⟩ := List.mem_map.1 hf
      have hi' := List.mem_range.1 hi
      exact (hG i (by omega)).2
/-- An argument of type laws.Given, opened. -/
theorem open_giv {H : Type} {enc : TypeId × Value → H} {W : World} {base : Nat} {v : Value} {d : DataW H} {p : List MemPlace}
    (hok : Value.okWide Tryz.prog W .any base 29 v) (h : DataW.Trod enc Tryz.prog W 0 (fun _ => true) true 29 v d p) :
    ∃ (n : Int) (m ho t : List UInt8) (u : Value) (l : List Flds.Fld) (c : Int) (x : Value) (lx : List Flds.Fld) (b : List UInt8) (a : Int) (p : Value) (ps : List Pur.T), v = .agg #[.int .i64 n, .string ⟨m.toArray⟩, .string ⟨ho.toArray⟩, .string ⟨t.toArray⟩, u, .int .i64 c, x, .string ⟨b.toArray⟩, .int .i64 a, p] ∧ Flds.Holds W W.heap.size u l ∧ Flds.Holds W W.heap.size x lx ∧ Pur.Holds W W.heap.size p ps ∧ Ok n m ho t l c lx b a ps := by
  obtain ⟨cs', rfl, hsz⟩ := WideShapes.okWide_struct Tryz.underlying29 hok
  obtain ⟨fuel, hf⟩ := h
  have celi : Tryz.prog.cellsOf 3 = 1 := by kernel_rfl
  have celq : Tryz.prog.cellsOf 24 = 4 := by kernel_rfl
  have celr : Tryz.prog.cellsOf 26 = 3 := by kernel_rfl
  have celPurge : Tryz.prog.cellsOf 27 = 1 := by kernel_rfl
  have ce : Tryz.prog.cellsOf 29 = 10 := by kernel_rfl
  obtain ⟨l⟩ := cs'
  obtain ⟨xs, kk, hk, hxy, _, hxl, hg⟩ := DataW.trod_struct Tryz.underlying29 hf
  match l, hsz.trans ce, xs, hxl with
  | [v0, v1, v2, v3, v4, v5, v6, v7, v8, v9], _, [y0, y1, y2, y3, y4], _ =>
    have g0 := hg 0 _ rfl
    have g1 := hg 1 _ rfl
    have g2 := hg 2 _ rfl
    have g3 := hg 3 _ rfl
    have g4 := hg 4 _ rfl
    simp [Value.cells, celi, celq, celr, celPurge] at g0 g1 g2 g3 g4
    obtain ⟨i0, z0, _, o0⟩ := DataW.trod_int Tryz.underlying3 g0
    obtain rfl : v0 = _ := by simpa using z0
    obtain ⟨m1, h1, t1, l1, rfl, rfl, rfl, e1, o1⟩ := req_cells g1
    obtain ⟨c2, l2, b2, rfl, rfl, e2, o2⟩ := rsp_cells g2
    obtain ⟨i3, z3, _, o3⟩ := DataW.trod_int Tryz.underlying3 g3
    obtain rfl : v8 = _ := by simpa using z3
    obtain ⟨u4, l4, hu4, e4, o4, p4⟩ := cells_Pur g4
    obtain rfl : v9 = u4 := by simpa using hu4
    exact ⟨i0, m1, h1, t1, v4, l1, c2, v6, l2, b2, i3, v9, l4, by simp, e1, e2, e4, o0, o1, o2, o3, ⟨o4, p4⟩⟩

set_option maxHeartbeats 2000000 in
/-- Its size: not below 0 just where it is at most what is left. -/
theorem size_giv (n : Int) (m ho t : List UInt8) (u : Value) (l : List Flds.Fld) (c : Int) (x : Value) (lx : List Flds.Fld) (b : List UInt8) (a : Int) (p : Value) (ps : List Pur.T) (left : Int) (B : Nat) (w : World) (hu : Flds.Holds w B u l) (hx : Flds.Holds w B x lx) (hp : Pur.Holds w B p ps) (hB : B ≤ w.heap.size) (hok : Ok n m ho t l c lx b a ps) (h0 : 0 ≤ left) (h3 : left ≤ 1048576) :
    Calls Tryz.prog 7 #[.agg #[.int .i64 n, .string ⟨m.toArray⟩, .string ⟨ho.toArray⟩, .string ⟨t.toArray⟩, u, .int .i64 c, x, .string ⟨b.toArray⟩, .int .i64 a, p], .int .i64 left] w fun e w' => ∃ z : Int, e = .returned (.int .i64 z) ∧ (z < 0 ∨ (0 ≤ z ∧ z + ((tot m ho t l lx b ps : Nat) : Int) = left)) ∧ Below w.heap.size w w' := by
  have HB0 := Lib.hid ((Below.refl w.heap.size w).alloc (Nat.le_refl _) (.cells #[.int .i64 n, .string ⟨m.toArray⟩, .string ⟨ho.toArray⟩, .string ⟨t.toArray⟩, u, .int .i64 c, x, .string ⟨b.toArray⟩, .int .i64 a, p] 29))
  have HBX := Lib.hid (fun W (hb : Below (w.alloc (.cells #[.int .i64 n, .string ⟨m.toArray⟩, .string ⟨ho.toArray⟩, .string ⟨t.toArray⟩, u, .int .i64 c, x, .string ⟨b.toArray⟩, .int .i64 a, p] 29)).heap.size (w.alloc (.cells #[.int .i64 n, .string ⟨m.toArray⟩, .string ⟨ho.toArray⟩, .string ⟨t.toArray⟩, u, .int .i64 c, x, .string ⟨b.toArray⟩, .int .i64 a, p] 29)) W) => (Kept.Box.new (w := w) (T := 29) (a := #[.int .i64 n, .string ⟨m.toArray⟩, .string ⟨ho.toArray⟩, .string ⟨t.toArray⟩, u, .int .i64 c, x, .string ⟨b.toArray⟩, .int .i64 a, p])).below hb)
  obtain ⟨okn, oku, okx, oka, okp⟩ := hok
  have HTOT : Hid (tot m ho t l lx b ps = (Flds.total l + m.length + ho.length + t.length) + (Flds.total lx + b.length) + Pur.total ps) := Lib.hid rfl
  have HS0 := Lib.hid (fun (z : Int) (hz0 : 0 ≤ z) (hz3 : z ≤ 1048576) W (hb : Below w.heap.size w W) => Msg.size_req m ho t u l z B W (Flds.holds_below hu (hb.mono hB)) (Nat.le_trans hB hb.size) oku hz0 hz3)
  have HS1 := Lib.hid (fun (z : Int) (hz0 : 0 ≤ z) (hz3 : z ≤ 1048576) W (hb : Below w.heap.size w W) => Msg.size_rsp c x lx b z B W (Flds.holds_below hx (hb.mono hB)) (Nat.le_trans hB hb.size) okx hz0 hz3)
  have HS2 := Lib.hid (fun (z : Int) (hz0 : 0 ≤ z) (hz3 : z ≤ 1048576) W (hb : Below w.heap.size w W) => Pur.size_any p B ps z W (Pur.holds_below hp (hb.mono hB)) okp.1 okp.2 hz0 hz3)
  clear hu oku hx okx hp okp
  go_enter Tryz.func7, Tryz.ntmps7
  have HC0 := Lib.hid (HS0.out (left) (by omega) (by omega) _ HB0.out)
  go_wp2_with (fail)
  go_at_call 24
  refine HC0.out.mono ?_
  rintro e w1 ⟨z1, rfl, hz1, hb1⟩
  have HR1 := Lib.hid hb1
  have HB1 := Lib.hid (HB0.out.trans (hb1.mono HB0.out.size))
  clear hb1
  rcases hz1 with hz1 | ⟨hz10, hz11⟩
  · go_wp2
    go_ret
    exact ⟨_, rfl, Or.inl (by omega), HB1.out⟩
  have hzn1 : ¬ z1 < 0 := by omega
  have HT1 := Lib.hid hz11
  clear hz11
  have HC1 := Lib.hid (HS1.out (z1) (by omega) (by have := HT1.out; omega) _ HB1.out)
  have x5 := (HBX.out _ HR1.out).cell 5 _ rfl
  have x6 := (HBX.out _ HR1.out).cell 6 _ rfl
  have x7 := (HBX.out _ HR1.out).cell 7 _ rfl
  go_wp2_with (fail)
  go_at_call 25
  refine HC1.out.mono ?_
  rintro e w2 ⟨z2, rfl, hz2, hb2⟩
  have HR2 := Lib.hid (Base.then_below HR1.out hb2)
  have HB2 := Lib.hid (Base.then_below HB1.out hb2)
  clear hb2 x5 x6 x7
  rcases hz2 with hz2 | ⟨hz20, hz21⟩
  · go_wp2
    go_ret
    exact ⟨_, rfl, Or.inl (by omega), HB2.out⟩
  have hzn2 : ¬ z2 < 0 := by omega
  have HT2 := Lib.hid hz21
  clear hz21
  have HC2 := Lib.hid (HS2.out (z2) (by omega) (by have := HT1.out; have := HT2.out; omega) _ HB2.out)
  have x9 := (HBX.out _ HR2.out).cell 9 _ rfl
  go_wp2_with (fail)
  go_at_call 26
  refine HC2.out.mono ?_
  rintro e w3 ⟨z3, rfl, hz3, hb3⟩
  have HR3 := Lib.hid (Base.then_below HR2.out hb3)
  have HB3 := Lib.hid (Base.then_below HB2.out hb3)
  clear hb3 x9
  rcases hz3 with hz3 | ⟨hz30, hz31⟩
  · go_wp2
    go_ret
    exact ⟨_, rfl, Or.inl (by omega), HB3.out⟩
  have hzn3 : ¬ z3 < 0 := by omega
  have HT3 := Lib.hid hz31
  clear hz31
  go_wp2
  go_ret
  exact ⟨_, rfl, Or.inr ⟨by omega, by have := HT1.out; have := HT2.out; have := HT3.out; have := HTOT.out; omega⟩, HB3.out⟩

set_option maxHeartbeats 2000000 in
theorem eq_giv (n : Int) (m ho t : List UInt8) (u : Value) (l : List Flds.Fld) (c : Int) (x : Value) (lx : List Flds.Fld) (b : List UInt8) (a : Int) (p : Value) (ps : List Pur.T) (u' x' p' : Value) (B B' : Nat) (w : World) (hu : Flds.Holds w B u l) (hx : Flds.Holds w B x lx) (hp : Pur.Holds w B p ps) (hB : B ≤ w.heap.size) (hu' : Flds.Holds w B' u' l) (hx' : Flds.Holds w B' x' lx) (hp' : Pur.Holds w B' p' ps) (hB' : B' ≤ w.heap.size) (qu : l.length ≤ 1048576) (qx : lx.length ≤ 1048576) (qp : ps.length ≤ 1048576) :
    Calls Tryz.prog 11 #[.agg #[.int .i64 n, .string ⟨m.toArray⟩, .string ⟨ho.toArray⟩, .string ⟨t.toArray⟩, u, .int .i64 c, x, .string ⟨b.toArray⟩, .int .i64 a, p], .agg #[.int .i64 n, .string ⟨m.toArray⟩, .string ⟨ho.toArray⟩, .string ⟨t.toArray⟩, u', .int .i64 c, x', .string ⟨b.toArray⟩, .int .i64 a, p']] w (Rec.Yes w) := by
  have HB0 := Lib.hid (((Below.refl w.heap.size w).alloc (Nat.le_refl _) (.cells #[.int .i64 n, .string ⟨m.toArray⟩, .string ⟨ho.toArray⟩, .string ⟨t.toArray⟩, u, .int .i64 c, x, .string ⟨b.toArray⟩, .int .i64 a, p] 39)).alloc (by simp) (.cells #[.int .i64 n, .string ⟨m.toArray⟩, .string ⟨ho.toArray⟩, .string ⟨t.toArray⟩, u', .int .i64 c, x', .string ⟨b.toArray⟩, .int .i64 a, p'] 39))
  have HBX := Lib.hid (fun W (hb : Below ((w.alloc (.cells #[.int .i64 n, .string ⟨m.toArray⟩, .string ⟨ho.toArray⟩, .string ⟨t.toArray⟩, u, .int .i64 c, x, .string ⟨b.toArray⟩, .int .i64 a, p] 39)).alloc (.cells #[.int .i64 n, .string ⟨m.toArray⟩, .string ⟨ho.toArray⟩, .string ⟨t.toArray⟩, u', .int .i64 c, x', .string ⟨b.toArray⟩, .int .i64 a, p'] 39)).heap.size ((w.alloc (.cells #[.int .i64 n, .string ⟨m.toArray⟩, .string ⟨ho.toArray⟩, .string ⟨t.toArray⟩, u, .int .i64 c, x, .string ⟨b.toArray⟩, .int .i64 a, p] 39)).alloc (.cells #[.int .i64 n, .string ⟨m.toArray⟩, .string ⟨ho.toArray⟩, .string ⟨t.toArray⟩, u', .int .i64 c, x', .string ⟨b.toArray⟩, .int .i64 a, p'] 39)) W) => ((Kept.Box.new (w := w) (T := 39) (a := #[.int .i64 n, .string ⟨m.toArray⟩, .string ⟨ho.toArray⟩, .string ⟨t.toArray⟩, u, .int .i64 c, x, .string ⟨b.toArray⟩, .int .i64 a, p])).alloc (.cells #[.int .i64 n, .string ⟨m.toArray⟩, .string ⟨ho.toArray⟩, .string ⟨t.toArray⟩, u', .int .i64 c, x', .string ⟨b.toArray⟩, .int .i64 a, p'] 39)).below hb)
  have HBY := Lib.hid (fun W (hb : Below ((w.alloc (.cells #[.int .i64 n, .string ⟨m.toArray⟩, .string ⟨ho.toArray⟩, .string ⟨t.toArray⟩, u, .int .i64 c, x, .string ⟨b.toArray⟩, .int .i64 a, p] 39)).alloc (.cells #[.int .i64 n, .string ⟨m.toArray⟩, .string ⟨ho.toArray⟩, .string ⟨t.toArray⟩, u', .int .i64 c, x', .string ⟨b.toArray⟩, .int .i64 a, p'] 39)).heap.size ((w.alloc (.cells #[.int .i64 n, .string ⟨m.toArray⟩, .string ⟨ho.toArray⟩, .string ⟨t.toArray⟩, u, .int .i64 c, x, .string ⟨b.toArray⟩, .int .i64 a, p] 39)).alloc (.cells #[.int .i64 n, .string ⟨m.toArray⟩, .string ⟨ho.toArray⟩, .string ⟨t.toArray⟩, u', .int .i64 c, x', .string ⟨b.toArray⟩, .int .i64 a, p'] 39)) W) => (Kept.Box.new (w := (w.alloc (.cells #[.int .i64 n, .string ⟨m.toArray⟩, .string ⟨ho.toArray⟩, .string ⟨t.toArray⟩, u, .int .i64 c, x, .string ⟨b.toArray⟩, .int .i64 a, p] 39))) (T := 39) (a := #[.int .i64 n, .string ⟨m.toArray⟩, .string ⟨ho.toArray⟩, .string ⟨t.toArray⟩, u', .int .i64 c, x', .string ⟨b.toArray⟩, .int .i64 a, p'])).below hb)
  rw [show (w.alloc (.cells #[.int .i64 n, .string ⟨m.toArray⟩, .string ⟨ho.toArray⟩, .string ⟨t.toArray⟩, u, .int .i64 c, x, .string ⟨b.toArray⟩, .int .i64 a, p] 39)).heap.size = w.heap.size + 1 by simp] at HBY
  have HS0 := Lib.hid (fun W (hb : Below w.heap.size w W) => Msg.eq_req m ho t u l u' B B' W (Flds.holds_below hu (hb.mono hB)) (Flds.holds_below hu' (hb.mono hB')) (Nat.le_trans hB hb.size) (Nat.le_trans hB' hb.size) qu)
  unfold Rec.Yes at HS0
  have HS1 := Lib.hid (fun W (hb : Below w.heap.size w W) => Msg.eq_rsp c x lx b x' B B' W (Flds.holds_below hx (hb.mono hB)) (Flds.holds_below hx' (hb.mono hB')) (Nat.le_trans hB hb.size) (Nat.le_trans hB' hb.size) qx)
  unfold Rec.Yes at HS1
  have HS2 := Lib.hid (fun W (hb : Below w.heap.size w W) => Pur.eq_same p p' B B' ps W (Pur.holds_below hp (hb.mono hB)) (Pur.holds_below hp' (hb.mono hB')) qp)
  unfold Rec.Yes at HS2
  unfold Rec.Yes
  clear hu hu' hx hx' hp hp'
  go_enter Tryz.func11, Tryz.ntmps11
  go_wp2_with (fail)
  go_at_call 16
  refine (HS0.out _ HB0.out).mono ?_
  rintro e w1 ⟨rfl, hb1⟩
  have HR1 := Lib.hid hb1
  have HB1 := Lib.hid (HB0.out.trans (hb1.mono HB0.out.size))
  clear hb1
  have x5 := (HBX.out _ HR1.out).cell 5 _ rfl
  have y5 := (HBY.out _ HR1.out).cell 5 _ rfl
  have x6 := (HBX.out _ HR1.out).cell 6 _ rfl
  have y6 := (HBY.out _ HR1.out).cell 6 _ rfl
  have x7 := (HBX.out _ HR1.out).cell 7 _ rfl
  have y7 := (HBY.out _ HR1.out).cell 7 _ rfl
  go_wp2_with (fail)
  go_at_call 21
  refine (HS1.out _ HB1.out).mono ?_
  rintro e w2 ⟨rfl, hb2⟩
  have HR2 := Lib.hid (Base.then_below HR1.out hb2)
  have HB2 := Lib.hid (Base.then_below HB1.out hb2)
  clear hb2 x5 y5 x6 y6 x7 y7
  have x8 := (HBX.out _ HR2.out).cell 8 _ rfl
  have y8 := (HBY.out _ HR2.out).cell 8 _ rfl
  have x9 := (HBX.out _ HR2.out).cell 9 _ rfl
  have y9 := (HBY.out _ HR2.out).cell 9 _ rfl
  go_wp2_with (fail)
  go_at_call 40
  refine (HS2.out _ HB2.out).mono ?_
  rintro e w3 ⟨rfl, hb3⟩
  have HR3 := Lib.hid (Base.then_below HR2.out hb3)
  have HB3 := Lib.hid (Base.then_below HB2.out hb3)
  clear hb3 x8 y8 x9 y9
  go_wp2
  go_ret
  exact ⟨rfl, HB3.out⟩
end Go.Proofs.YtjeihicjfgimdaaGreatDoor.Giv
