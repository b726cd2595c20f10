/-
  CONTRACTS AND PLAIN FACTS, several texts in one; each says in its own words what it proves.
-/
import Derived.Test.YtndbhjgfaghelaaGreatDoorPartP
import Derived.Test.YtndbhjgfaghelaaGreatDoorPartO
import Derived.LoopTactic
import Derived.Outline
import Derived.RegionTactic
import Derived.Deep.RegionWith
set_option linter.unusedSimpArgs false
set_option linter.unusedVariables false

/-
  CONTRACTS of the laws' helpers for a Resource: an argument of that type, opened; its size (szResource), a copy (toResource), the comparison of two that hold the same (eqResource). Nothing that was there before is changed.
-/
namespace Go.Proofs.YtndbhjgfaghelaaGreatDoor.Res
open Go Go.RowKit
set_option linter.unusedVariables false
set_option maxRecDepth 1000000

def rv (t c k : List UInt8) (p : Bool) (u v : Value) : Value := .agg #[.string ⟨t.toArray⟩, .string ⟨c.toArray⟩, .string ⟨k.toArray⟩, .bool p, u, v]
def Ok (t c k : List UInt8) (gs : List (List UInt8)) (vs : List Ver.T) : Prop := (t.length ≤ maxLen ∧ c.length ≤ maxLen ∧ k.length ≤ maxLen) ∧ (gs.length ≤ maxLen ∧ ∀ x ∈ gs, x.length ≤ maxLen) ∧ (vs.length ≤ maxLen ∧ ∀ f ∈ vs, Ver.Ok f)
def tot (t c k : List UInt8) (gs : List (List UInt8)) (vs : List Ver.T) : Nat := t.length + c.length + k.length + Strs.total gs + Ver.total vs
theorem open_text {H : Type} {enc : TypeId × Value → H} {W : World} {fuel : Nat} {v : Value} {x : DataW H × List MemPlace} (h : DataW.trod enc Tryz.prog W 0 (fun _ => true) true fuel 9 [v] = some x) : ∃ n : List UInt8, v = .string ⟨n.toArray⟩ ∧ n.length ≤ maxLen := by
  obtain ⟨s1, z1, _, o1⟩ := DataW.trod_string Tryz.underlying9 h
  obtain rfl : v = _ := by simpa using z1
  exact ⟨s1.data.toList, rfl, by rw [Array.length_toList]; exact o1⟩

set_option maxRecDepth 1000000 in
/-- An argument of type laws.Resource, opened. -/
theorem open_res {H : Type} {enc : TypeId × Value → H} {W : World} {base : Nat} {v : Value} {d : DataW H} {p : List MemPlace}
    (hok : Value.okWide Tryz.prog W .any base 146 v) (h : DataW.Trod enc Tryz.prog W 0 (fun _ => true) true 146 v d p) :
    ∃ (t c k : List UInt8) (q : Bool) (u : Value) (gs : List (List UInt8)) (z : Value) (vs : List Ver.T), v = .agg #[.string ⟨t.toArray⟩, .string ⟨c.toArray⟩, .string ⟨k.toArray⟩, .bool q, u, z] ∧ Strs.Holds W W.heap.size u gs ∧ Ver.Holds W W.heap.size z vs ∧ Ok t c k gs vs := by
  obtain ⟨cs', rfl, hsz⟩ := WideShapes.okWide_struct Tryz.underlying146 hok
  obtain ⟨fuel, hf⟩ := h
  have cels : Tryz.prog.cellsOf 9 = 1 := by kernel_rfl
  have celb : Tryz.prog.cellsOf 4 = 1 := by kernel_rfl
  have celf : Tryz.prog.cellsOf 72 = 1 := by kernel_rfl
  have celg : Tryz.prog.cellsOf 144 = 1 := by kernel_rfl
  have ce : Tryz.prog.cellsOf 146 = 6 := by kernel_rfl
  obtain ⟨l⟩ := cs'
  obtain ⟨xs, k, hk, hxy, _, hxl, hg⟩ := DataW.trod_struct Tryz.underlying146 hf
  match l, hsz.trans ce, xs, hxl with
  | [v0, v1, v2, v3, v4, v5], _, [y0, y1, y2, y3, y4, y5], _ =>
    have g0 := hg 0 _ rfl
    have g1 := hg 1 _ rfl
    have g2 := hg 2 _ rfl
    have g3 := hg 3 _ rfl
    have g4 := hg 4 _ rfl
    have g5 := hg 5 _ rfl
    simp [Value.cells, cels, celb, celf, celg] at g0 g1 g2 g3 g4 g5
    obtain ⟨n0, rfl, hn0⟩ := open_text g0
    obtain ⟨n1, rfl, hn1⟩ := open_text g1
    obtain ⟨n2, rfl, hn2⟩ := open_text g2
    obtain ⟨q, z3, _⟩ := DataW.trod_bool Tryz.underlying4 g3
    obtain rfl : v3 = _ := by simpa using z3
    obtain ⟨u, gs, hu, hh, hl1, hl2⟩ := Strs.open_cells g4
    obtain rfl : v4 = u := by simpa using hu
    obtain ⟨z, vs, hz, hh2, hm1, hm2⟩ := Ver.open_cells g5
    obtain rfl : v5 = z := by simpa using hz
    exact ⟨n0, n1, n2, q, v4, gs, v5, vs, by simp, hh, hh2, ⟨hn0, hn1, hn2⟩, ⟨hl1, hl2⟩, hm1, hm2⟩

set_option maxHeartbeats 1000000 in
/-- Its size: not below 0 just where it is at most what is left. -/
theorem size_res (t c k : List UInt8) (p : Bool) (u : Value) (gs : List (List UInt8)) (v : Value) (vs : List Ver.T) (left : Int) (B : Nat) (w : World) (h : Strs.Holds w B u gs) (h2 : Ver.Holds w B v vs) (hB : B ≤ w.heap.size) (hok : Ok t c k gs vs) (h0 : 0 ≤ left) (h3 : left ≤ 1048576) :
    Calls Tryz.prog 111 #[.agg #[.string ⟨t.toArray⟩, .string ⟨c.toArray⟩, .string ⟨k.toArray⟩, .bool p, u, v], .int .i64 left] w fun e w' => ∃ z : Int, e = .returned (.int .i64 z) ∧ (z < 0 ∨ (0 ≤ z ∧ z + ((tot t c k gs vs : Nat) : Int) = left)) ∧ Below w.heap.size w w' := by
  have hs0 : (⟨t.toArray⟩ : ByteArray).size = t.length := by simp [ByteArray.size]
  have hs1 : (⟨c.toArray⟩ : ByteArray).size = c.length := by simp [ByteArray.size]
  have hs2 : (⟨k.toArray⟩ : ByteArray).size = k.length := by simp [ByteArray.size]
  have HB0 := Lib.hid ((Below.refl w.heap.size w).alloc (Nat.le_refl _) (.cells #[.string ⟨t.toArray⟩, .string ⟨c.toArray⟩, .string ⟨k.toArray⟩, .bool p, u, v] 146))
  obtain ⟨⟨hm, hh, ht⟩, ⟨hg1, hg2⟩, hv1, hv2⟩ := hok
  unfold maxLen at hm hh ht
  have HTOT : Hid (tot t c k gs vs = t.length + c.length + k.length + Strs.total gs + Ver.total vs) := Lib.hid rfl
  by_cases q0 : left - (t.length : Int) < 0
  · clear h h2
    go_enter Tryz.func111, Tryz.ntmps111
    go_wp2
    go_ret
    exact ⟨_, rfl, Or.inl (by omega), HB0.out⟩
  by_cases q1 : left - (t.length : Int) - (c.length : Int) < 0
  · clear h h2
    go_enter Tryz.func111, Tryz.ntmps111
    go_wp2
    go_ret
    exact ⟨_, rfl, Or.inl (by omega), HB0.out⟩
  by_cases q2 : left - (t.length : Int) - (c.length : Int) - (k.length : Int) < 0
  · clear h h2
    go_enter Tryz.func111, Tryz.ntmps111
    go_wp2
    go_ret
    exact ⟨_, rfl, Or.inl (by omega), HB0.out⟩
  have HS := Lib.hid (Strs.sizel_any u B gs (left - (t.length : Int) - (c.length : Int) - (k.length : Int)) _ (Strs.holds_below h (HB0.out.mono hB)) hg1 hg2 (by omega) (by omega))
  have HV := Lib.hid (fun (z : Int) (hz0 : 0 ≤ z) (hz3 : z ≤ 1048576) => Ver.size_any v B vs z _ (Ver.holds_below h2 (HB0.out.mono hB)) hv1 hv2 hz0 hz3)
  have HK := Lib.hid (Kept.one (Below.refl _ (w.alloc (.cells #[.string ⟨t.toArray⟩, .string ⟨c.toArray⟩, .string ⟨k.toArray⟩, .bool p, u, v] 146))))
  clear h h2 hg1 hg2 hv1 hv2
  go_enter Tryz.func111, Tryz.ntmps111
  go_wp2_with (fail)
  go_at_call 159
  refine HS.out.mono ?_
  rintro e w1 ⟨z, rfl, hz, rfl⟩
  rcases hz with hz | ⟨hz0, hz1⟩
  · go_wp2
    go_ret
    exact ⟨_, rfl, Or.inl (by omega), HB0.out⟩
  · have hzn : ¬ z < 0 := by omega
    have HT := Lib.hid hz1
    have HV2 := Lib.hid (HV.out z hz0 (by omega))
    clear hz1
    go_wp2_with (fail)
    go_at_call 160
    refine HV2.out.mono ?_
    rintro e w2 ⟨y, rfl, hy, hb2⟩
    have HB2 := Lib.hid (HB0.out.trans (hb2.mono (by simp)))
    clear hb2
    rcases hy with hy | ⟨hy0, hy1⟩
    · go_wp2
      go_ret
      exact ⟨_, rfl, Or.inl (by omega), HB2.out⟩
    · have hyn : ¬ y < 0 := by omega
      have HT2 := Lib.hid hy1
      clear hy1
      go_wp2
      go_ret
      exact ⟨_, rfl, Or.inr ⟨by omega, by have := HT.out; have := HT2.out; have := HTOT.out; omega⟩, HB2.out⟩

theorem eq_res (t c k : List UInt8) (p : Bool) (u : Value) (gs : List (List UInt8)) (v : Value) (vs : List Ver.T) (u' v' : Value) (B B' : Nat) (w : World) (h : Strs.Holds w B u gs) (h2 : Ver.Holds w B v vs) (h' : Strs.Holds w B' u' gs) (h2' : Ver.Holds w B' v' vs) (hB : B ≤ w.heap.size) (hB' : B' ≤ w.heap.size) (hl : gs.length ≤ 1048576) (hl2 : vs.length ≤ 1048576) :
    Calls Tryz.prog 129 #[.agg #[.string ⟨t.toArray⟩, .string ⟨c.toArray⟩, .string ⟨k.toArray⟩, .bool p, u, v], .agg #[.string ⟨t.toArray⟩, .string ⟨c.toArray⟩, .string ⟨k.toArray⟩, .bool p, u', v']] w (Rec.Yes w) := by
  have HB0 := Lib.hid (((Below.refl w.heap.size w).alloc (Nat.le_refl _) (.cells #[.string ⟨t.toArray⟩, .string ⟨c.toArray⟩, .string ⟨k.toArray⟩, .bool p, u, v] 107)).alloc (by simp) (.cells #[.string ⟨t.toArray⟩, .string ⟨c.toArray⟩, .string ⟨k.toArray⟩, .bool p, u', v'] 107))
  have HS := Lib.hid (Strs.eq_same u u' B B' gs _ (Strs.holds_below h (HB0.out.mono hB)) (Strs.holds_below h' (HB0.out.mono hB')) (by omega))
  have HV := Lib.hid (fun W (hb : Below w.heap.size w W) => Ver.eq_same v v' B B' vs W (Ver.holds_below h2 (hb.mono hB)) (Ver.holds_below h2' (hb.mono hB')) hl2)
  have HK := Lib.hid (fun W => Kept.two (w := w) (w1 := W) (o := .cells #[.string ⟨t.toArray⟩, .string ⟨c.toArray⟩, .string ⟨k.toArray⟩, .bool p, u, v] 107) (T := 107) (a := #[.string ⟨t.toArray⟩, .string ⟨c.toArray⟩, .string ⟨k.toArray⟩, .bool p, u', v']))
  have HK1 := Lib.hid (fun W => Kept.one (w := w) (w1 := W) (T := 107) (a := #[.string ⟨t.toArray⟩, .string ⟨c.toArray⟩, .string ⟨k.toArray⟩, .bool p, u, v]))
  unfold Rec.Yes at HV ⊢
  clear h h' h2 h2'
  go_enter Tryz.func129, Tryz.ntmps129
  go_wp2_with (fail)
  go_at_call 178
  refine HS.out.mono ?_
  rintro e w1 ⟨rfl, hb1⟩
  have k2 := (HK.out _ hb1).1 5 _ rfl
  have k1 := (HK1.out _ (Kept.below_in hb1)).1 5 _ rfl
  have HBW := Lib.hid (HB0.out.trans (hb1.mono HB0.out.size))
  clear hb1
  go_wp2_with (fail)
  go_at_call 179
  refine (HV.out _ HBW.out).mono ?_
  rintro e w2 ⟨rfl, hb2⟩
  have HBX := Lib.hid (Base.then_below HBW.out hb2)
  clear hb2
  go_wp2
  go_ret
  exact ⟨rfl, HBX.out⟩
end Go.Proofs.YtndbhjgfaghelaaGreatDoor.Res

/-
  CONTRACTS of the laws' helpers for slices of Resource (written by nst.py): opened, their size, the comparison of two that hold the same. Nothing that was there before is changed.
-/
namespace Go.Proofs.YtndbhjgfaghelaaGreatDoor.Rsl
open Go Go.RowKit
set_option linter.unusedVariables false
set_option maxRecDepth 1000000
set_option maxRecDepth 1000000

structure T where
  et : List UInt8
  ec : List UInt8
  ek : List UInt8
  ep : Bool
  egs : List (List UInt8)
  evs : List Ver.T
def nov : T := ⟨[], [], [], false, [], []⟩
def Ok1 (e : T) : Prop := Res.Ok e.et e.ec e.ek e.egs e.evs
def wt (e : T) : Nat := Res.tot e.et e.ec e.ek e.egs e.evs
def total (l : List T) : Nat := Rec.total wt l
/-- What a row of cells means. -/
def RD (w : World) (B : Nat) (c : List Value) (e : T) : Prop := ∃ uu uv : Value, c = [.string ⟨e.et.toArray⟩, .string ⟨e.ec.toArray⟩, .string ⟨e.ek.toArray⟩, .bool e.ep, uu, uv] ∧ Strs.Holds w B uu e.egs ∧ Ver.Holds w B uv e.evs
theorem rd_below {w w' : World} {B : Nat} (hb : Below B w w') {c : List Value} {e : T} (h : RD w B c e) : RD w' B c e := by
  obtain ⟨uu, uv, hc, huu, huv⟩ := h
  exact ⟨uu, uv, hc, Strs.holds_below huu hb, Ver.holds_below huv hb⟩
theorem rd_more {w : World} {B B' : Nat} (hB : B ≤ B') {c : List Value} {e : T} (h : RD w B c e) : RD w B' c e := by
  obtain ⟨uu, uv, hc, huu, huv⟩ := h
  exact ⟨uu, uv, hc, Strs.holds_more huu hB, Ver.holds_more huv hB⟩
theorem rd_drew {w : World} {B : Nat} {c : List Value} {e : T} (h : RD w B c e) : RD w.drew B c e := h
def Holds (w : World) (B : Nat) (v : Value) (l : List T) : Prop := Nst.Holds 6 RD nov w B v l
theorem holds_below {w w' : World} {B : Nat} {v : Value} {l : List T} (h : Holds w B v l) (hb : Below B w w') : Holds w' B v l := Nst.holds_below (rd_below hb) h hb
theorem holds_more {w : World} {B B' : Nat} {v : Value} {l : List T} (h : Holds w B v l) (hB : B ≤ B') : Holds w B' v l := Nst.holds_more (rd_more hB) h hB
theorem holds_drew {w : World} {B : Nat} {v : Value} {l : List T} (h : Holds w B v l) : Holds w.drew B v l := h
theorem len_le_total (l : List T) : l.length ≤ total l := Rec.len_le_total wt l
theorem mem_total {l : List T} {f : T} (h : f ∈ l) : wt f ≤ total l := Rec.mem_total wt h
theorem row_open {H : Type} {enc : TypeId × Value → H} {W : World} {fuel : Nat} {v0 v1 v2 v3 v4 v5 : Value} {x : DataW H × List MemPlace}
    (hf : DataW.trod enc Tryz.prog W 0 (fun _ => true) true fuel 146 [v0, v1, v2, v3, v4, v5] = some x) : ∃ e : T, RD W W.heap.size [v0, v1, v2, v3, v4, v5] e ∧ Ok1 e := by
  have cels : Tryz.prog.cellsOf 9 = 1 := by kernel_rfl
  have celb : Tryz.prog.cellsOf 4 = 1 := by kernel_rfl
  have celf : Tryz.prog.cellsOf 72 = 1 := by kernel_rfl
  have celg : Tryz.prog.cellsOf 144 = 1 := by kernel_rfl
  obtain ⟨xs, kk, hk', hxy, _, hxl, hg⟩ := DataW.trod_struct Tryz.underlying146 hf
  match xs, hxl with
  | [y0, y1, y2, y3, y4, y5], _ =>
    have g0 := hg 0 _ rfl
    have g1 := hg 1 _ rfl
    have g2 := hg 2 _ rfl
    have g3 := hg 3 _ rfl
    have g4 := hg 4 _ rfl
    have g5 := hg 5 _ rfl
    simp [Value.cells, cels, celb, celf, celg] at g0 g1 g2 g3 g4 g5
    obtain ⟨n0, rfl, hn0⟩ := Res.open_text g0
    obtain ⟨n1, rfl, hn1⟩ := Res.open_text g1
    obtain ⟨n2, rfl, hn2⟩ := Res.open_text g2
    obtain ⟨q, z3, _⟩ := DataW.trod_bool Tryz.underlying4 g3
    obtain rfl : v3 = _ := by simpa using z3
    obtain ⟨u, gs, hu, hh, hl1, hl2⟩ := Strs.open_cells g4
    obtain rfl : v4 = u := by simpa using hu
    obtain ⟨z, vs, hz, hh2, hm1, hm2⟩ := Ver.open_cells g5
    obtain rfl : v5 = z := by simpa using hz
    exact ⟨⟨n0, n1, n2, q, gs, vs⟩, ⟨v4, v5, rfl, hh, hh2⟩, ⟨hn0, hn1, hn2⟩, ⟨hl1, hl2⟩, hm1, hm2⟩
/-- A slice of Resource that stands in one cell, opened. -/
theorem open_cells {H : Type} {enc : TypeId × Value → H} {W : World} {fuel : Nat} {cs0 : List Value} {x : DataW H × List MemPlace}
    (hf : DataW.trod enc Tryz.prog W 0 (fun _ => true) true fuel 56 cs0 = some x) :
    ∃ (v : Value) (l : List T), cs0 = [v] ∧ Holds W W.heap.size v l ∧ l.length ≤ maxLen ∧ (∀ f ∈ l, Ok1 f) := by
  have ce : Tryz.prog.cellsOf 146 = 6 := by kernel_rfl
  rcases Deep.open_slice Tryz.underlying56 hf with ⟨hcs, hx⟩ | ⟨a, len', cap', m, n, D, Pl, hcs, _, hl, hm, hmm, hx, hall⟩
  · exact ⟨_, [], hcs, Nst.holds_nil _ _ _ _, Nat.zero_le _, fun f hf => by cases hf⟩
  · simp only [if_true] at hmm
    subst hmm
    have each : ∀ i, i < m → ∃ f : Nst.Row 6 × T, (∀ k u, f.1.l[k]? = some u → W.cell? (a.add (i * 6 + k)) = some u) ∧ RD W W.heap.size f.1.l f.2 ∧ Ok1 f.2 := fun i hi => by
      obtain ⟨cs', h1, h2⟩ := hall i hi
      rw [ce] at h1
      obtain ⟨_, hlen, hcell⟩ := World.cells?_some h1
      match cs', hlen with
      | [v0, v1, v2, v3, v4, v5], hlen =>
        obtain ⟨e, he, hk⟩ := row_open h2
        refine ⟨(⟨[v0, v1, v2, v3, v4, v5], rfl⟩, e), fun k u hu => ?_, he, hk⟩
        have hkl : k < 6 := by
          rcases Nat.lt_or_ge k 6 with h | h
          · exact h
          · rw [List.getElem?_eq_none (by simpa using h)] at hu; cases hu
        have e0 := hcell k hkl
        rw [Deep.add_add] at e0
        rw [e0]
        exact hu
    haveI : Inhabited (Nst.Row 6 × T) := ⟨(Nst.nov 6, nov)⟩
    obtain ⟨G, hG⟩ := Deep.choose_lt (α := Nst.Row 6 × T) each
    have hln : ((List.range len').map fun j => (G j).1).length = len' := by simp
    have hl2 : ((List.range len').map fun j => (G j).2).length = len' := by simp
    have hget : ∀ j, j < len' → ((List.range len').map fun j => (G j).1).getD j (Nst.nov 6) = (G j).1 := fun j hj => by simp [List.getD, hj]
    have hget2 : ∀ j, j < len' → ((List.range len').map fun j => (G j).2).getD j nov = (G j).2 := fun j hj => by simp [List.getD, hj]
    refine ⟨_, (List.range len').map fun j => (G j).2, hcs, ⟨(List.range len').map fun j => (G j).1, by rw [hln, hl2], ?_, fun j hj => ?_⟩, by rw [hl2]; omega, ?_⟩
    · by_cases hl0 : len' = 0
      · subst hl0; exact Or.inl ⟨by simp, _, _, rfl⟩
      · obtain ⟨b, off, spot⟩ := a
        have hlt0 : 0 < (G 0).1.l.length := by rw [(G 0).1.h]; decide
        have hspot : spot = none := by simpa [Addr.add] using World.cell?_spot ((hG 0 (by omega)).1 0 _ (List.getElem?_eq_getElem hlt0))
        subst hspot
        have hc : Rec.At 6 Nst.cs (Nst.nov 6) W b off ((List.range len').map fun j => (G j).1) := fun j hj i u hu => by
          rw [hln] at hj
          rw [hget j hj] at hu
          rw [Nat.add_assoc, ← WideShapes.add_plain]
          exact (hG j (by omega)).1 i u hu
        exact Or.inr ⟨by omega, b, off, _, by rw [hln], Rec.at_lt Nst.cs_len (by decide) hc (by omega), by omega, hc⟩
    · rw [hl2] at hj
      rw [hget j hj, hget2 j hj]
      exact (hG j (by omega)).2.1
    · intro f hf
      obtain ⟨i, hi, rfl⟩ := List.mem_map.1 hf
      have hi' := List.mem_range.1 hi
      exact (hG i (by omega)).2.2

def Sized (l : List T) (left : Int) (w : World) (e : Ending) (w' : World) : Prop := ∃ z : Int, e = .returned (.int .i64 z) ∧ (z < 0 ∨ (0 ≤ z ∧ z + ((total l : Nat) : Int) = left)) ∧ Below w.heap.size w w'
theorem size_nil (a : Option Addr) (cap : Nat) (left : Int) (w : World) (h0 : 0 ≤ left) (h3 : left ≤ 1048576) :
    Calls Tryz.prog 68 #[.slice a 0 cap, .int .i64 left] w (Sized [] left w) := by
  go_enter Tryz.func68, Tryz.ntmps68
  go_wp2
  go_loop [1, 5] (fun l i => i = .int .i64 0 ∧ l = .int .i64 left) (fun _ i => 0)
  case atStart => exact ⟨rfl, by simp⟩
  case round =>
    obtain ⟨rfl, rfl⟩ := hrel
    go_wp2
    go_ret
    exact ⟨_, rfl, Or.inr ⟨by omega, by show left + ((0 : Nat) : Int) = left; simp⟩, Below.refl _ _⟩

def pre (l : List T) (k : Nat) : Nat := Rec.pre wt l k
set_option maxHeartbeats 2000000 in
theorem size_some (b off cap B : Nat) (l : List T) (rows : List (Nst.Row 6)) (left : Int) (w : World) (hc : Rec.At 6 Nst.cs (Nst.nov 6) w b off rows) (hlen : rows.length = l.length) (hbB : b < B) (hB : B ≤ w.heap.size) (hr : ∀ j, j < l.length → RD w B (rows.getD j (Nst.nov 6)).l (l.getD j nov)) (h0 : 0 < l.length) (hl : l.length ≤ maxLen) (hx : ∀ f ∈ l, Ok1 f) (hl0 : 0 ≤ left) (hl3 : left ≤ 1048576) :
    Calls Tryz.prog 68 #[.slice (some ⟨b, off, none⟩) l.length cap, .int .i64 left] w (Sized l left w) := by
  have hbl : b < w.heap.size := by omega
  have HC := Lib.hid hc
  have HX := Lib.hid hx
  have HRW := Lib.hid hr
  have HLN := Lib.hid hlen
  unfold maxLen at hl
  clear hc hx hr hlen
  by_cases hn : left - (l.length : Int) < 0
  · go_enter Tryz.func68, Tryz.ntmps68
    go_wp2
    go_ret
    exact ⟨_, rfl, Or.inl (by omega), Below.refl _ _⟩
  · go_enter Tryz.func68, Tryz.ntmps68
    go_wp2
    go_loopw [1, 5] (fun q i wr => ∃ j0 : Nat, j0 ≤ l.length ∧ i = .int .i64 (j0 : Int) ∧ 0 ≤ left - (l.length : Int) - (pre l j0 : Int) ∧ q = .int .i64 (left - (l.length : Int) - (pre l j0 : Int)) ∧ Below w.heap.size w wr) (fun _ i _ => l.length - (intOf i).toNat)
    case atStart => exact ⟨0, Nat.zero_le _, rfl, by unfold pre; rw [Rec.pre_zero]; omega, by unfold pre; rw [Rec.pre_zero]; simp, Below.refl _ _⟩
    case round =>
      obtain ⟨j0, hk, rfl, hpp, rfl, hb⟩ := hrel
      by_cases hlt : j0 < l.length
      · have hA := Rec.at_below HC.out (hb.mono (by omega)) hbB
        have HX1 := Lib.hid (HX.out _ (Rec.getD_mem (z := nov) hlt))
        have HP : Hid (pre l (j0 + 1) = pre l j0 + wt (l.getD j0 nov)) := Lib.hid (Rec.pre_more (z := nov) wt hlt)
        have hrk := rd_below (hb.mono hB) (HRW.out j0 hlt)
        generalize l.getD j0 nov = f at hrk HP HX1
        obtain ⟨et, ec, ek, ep, egs, evs⟩ := f
        obtain ⟨uu, uv, hcs, huu, huv⟩ := hrk
        dsimp only at hcs huu huv
        have c0 : wr.cell? ⟨b, off + j0 * 6, none⟩ = some (.string ⟨et.toArray⟩) := Nst.at_cell (i := 0) hA (by rw [HLN.out]; exact hlt) hcs rfl
        have c1 : wr.cell? ⟨b, off + j0 * 6 + 1, none⟩ = some (.string ⟨ec.toArray⟩) := Nst.at_cell (i := 1) hA (by rw [HLN.out]; exact hlt) hcs rfl
        have c2 : wr.cell? ⟨b, off + j0 * 6 + 2, none⟩ = some (.string ⟨ek.toArray⟩) := Nst.at_cell (i := 2) hA (by rw [HLN.out]; exact hlt) hcs rfl
        have c3 : wr.cell? ⟨b, off + j0 * 6 + 3, none⟩ = some (.bool ep) := Nst.at_cell (i := 3) hA (by rw [HLN.out]; exact hlt) hcs rfl
        have c4 : wr.cell? ⟨b, off + j0 * 6 + 4, none⟩ = some (uu) := Nst.at_cell (i := 4) hA (by rw [HLN.out]; exact hlt) hcs rfl
        have c5 : wr.cell? ⟨b, off + j0 * 6 + 5, none⟩ = some (uv) := Nst.at_cell (i := 5) hA (by rw [HLN.out]; exact hlt) hcs rfl
        generalize hr : left - (l.length : Int) - (pre l j0 : Int) = r at hpp ⊢
        have hr' := Lib.hid hr
        clear hr
        have HR : Hid (r ≤ 1048576) := Lib.hid (by have := hr'.out; omega)
        have HB := Lib.hid hb
        have HS := Lib.hid (Res.size_res et ec ek ep uu egs uv evs r B wr huu huv (Nat.le_trans hB hb.size) HX1.out hpp HR.out)
        clear hb hA hcs huu huv
        go_wp2_with (go_at_call 111; refine HS.out.mono ?_; rintro e w' ⟨z, rfl, hz, hb1⟩; have HB1 := Lib.hid (Base.then_below HB.out (hb1.mono (Nat.le_refl _))); clear hb1)
        · go_ret
          exact ⟨_, rfl, Or.inl (by decide), HB1.out⟩
        · have hz' : z + ((Res.tot et ec ek egs evs : Nat) : Int) = r := by omega
          have HZ := Lib.hid hz'
          have HW : Hid (wt ⟨et, ec, ek, ep, egs, evs⟩ = Res.tot et ec ek egs evs) := Lib.hid rfl
          have hr2 := hr'.out
          clear hz'
          go_roundw
          case rel => exact ⟨j0 + 1, by omega, by go_num, by rw [HP.out, HW.out]; have := HZ.out; omega, by rw [HP.out, HW.out]; have := HZ.out; congr 1; omega, HB1.out⟩
          case measure => simp [intOf]; omega
      · obtain rfl : j0 = l.length := by omega
        have HT : Hid (total l = pre l l.length + l.length) := Lib.hid (Rec.pre_all wt rfl)
        go_wp2
        go_ret
        exact ⟨_, rfl, Or.inr ⟨by omega, by have := HT.out; omega⟩, hb⟩

theorem size_any (v : Value) (B : Nat) (l : List T) (left : Int) (w : World) (h : Holds w B v l) (hB : B ≤ w.heap.size) (hl : l.length ≤ maxLen) (hx : ∀ f ∈ l, Ok1 f) (h0 : 0 ≤ left) (h3 : left ≤ 1048576) :
    Calls Tryz.prog 68 #[v, .int .i64 left] w (Sized l left w) := by
  rcases Nst.holds_cases h with ⟨rfl, a, cap, rfl⟩ | ⟨hp, b, off, cap, rfl, hb, _, rows, h1, h2, h4⟩
  · exact size_nil a cap left w h0 h3
  · exact size_some b off cap B l rows left w h2 h1 hb hB h4 hp hl hx h0 h3

theorem eq_nil (a a' : Option Addr) (cap cap' : Nat) (w : World) :
    Calls Tryz.prog 76 #[.slice a 0 cap, .slice a' 0 cap'] w (Rec.Yes w) := by
  go_enter Tryz.func76, Tryz.ntmps76
  go_wp2
  go_loop [5] (fun i => i = .int .i64 0) (fun i => 0)
  case atStart => rfl
  case round =>
    obtain rfl := hrel
    go_wp2
    go_ret
    exact ⟨rfl, Below.refl _ _⟩

set_option maxHeartbeats 4000000 in
theorem eq_some (b off cap b' off' cap' B B' : Nat) (l : List T) (rows rows' : List (Nst.Row 6)) (w : World) (hc : Rec.At 6 Nst.cs (Nst.nov 6) w b off rows) (hc' : Rec.At 6 Nst.cs (Nst.nov 6) w b' off' rows') (hlen : rows.length = l.length) (hlen' : rows'.length = l.length) (hbB : b < B) (hbB' : b' < B') (hB : B ≤ w.heap.size) (hB' : B' ≤ w.heap.size)
    (hr : ∀ j, j < l.length → RD w B (rows.getD j (Nst.nov 6)).l (l.getD j nov)) (hr' : ∀ j, j < l.length → RD w B' (rows'.getD j (Nst.nov 6)).l (l.getD j nov)) (h0 : 0 < l.length) (hl : l.length ≤ 1048576) (ht : ∀ f ∈ l, f.egs.length ≤ 1048576 ∧ f.evs.length ≤ 1048576) :
    Calls Tryz.prog 76 #[.slice (some ⟨b, off, none⟩) l.length cap, .slice (some ⟨b', off', none⟩) l.length cap'] w (Rec.Yes w) := by
  have hbl : b < w.heap.size := by omega
  have hbl' : b' < w.heap.size := by omega
  have HC := Lib.hid hc
  have HC' := Lib.hid hc'
  have HRW := Lib.hid hr
  have HRW' := Lib.hid hr'
  have HLN := Lib.hid hlen
  have HLN' := Lib.hid hlen'
  have HTT := Lib.hid ht
  clear hc hc' hr hr' hlen hlen' ht
  go_enter Tryz.func76, Tryz.ntmps76
  go_wp2
  go_loopw [5] (fun i wr => ∃ j0 : Nat, j0 ≤ l.length ∧ i = .int .i64 j0 ∧ Below w.heap.size w wr) (fun i _ => l.length - (intOf i).toNat)
  case atStart => exact ⟨0, Nat.zero_le _, rfl, Below.refl _ _⟩
  case round =>
    obtain ⟨j0, hk, rfl, hb⟩ := hrel
    by_cases hlt : j0 < l.length
    · have hbd := Rec.below_drew hb
      have hA := Rec.at_below HC.out (hbd.mono (by omega)) hbB
      have hA' := Rec.at_below HC'.out (hbd.mono (by omega)) hbB'
      have hT := HTT.out _ (Rec.getD_mem (z := nov) hlt)
      have hrk := rd_below (hbd.mono hB) (HRW.out j0 hlt)
      have hrk' := rd_below (hbd.mono hB') (HRW'.out j0 hlt)
      generalize l.getD j0 nov = f at hrk hrk' hT
      obtain ⟨et, ec, ek, ep, egs, evs⟩ := f
      obtain ⟨uu, uv, hcs, huu, huv⟩ := hrk
      obtain ⟨uu', uv', hcs', huu', huv'⟩ := hrk'
      dsimp only at hcs huu huv hcs' huu' huv' hT
      have cc0 : wr.drew.cell? ⟨b, off + j0 * 6, none⟩ = some (.string ⟨et.toArray⟩) := Nst.at_cell (i := 0) hA (by rw [HLN.out]; exact hlt) hcs rfl
      have cc1 : wr.drew.cell? ⟨b, off + j0 * 6 + 1, none⟩ = some (.string ⟨ec.toArray⟩) := Nst.at_cell (i := 1) hA (by rw [HLN.out]; exact hlt) hcs rfl
      have cc2 : wr.drew.cell? ⟨b, off + j0 * 6 + 2, none⟩ = some (.string ⟨ek.toArray⟩) := Nst.at_cell (i := 2) hA (by rw [HLN.out]; exact hlt) hcs rfl
      have cc3 : wr.drew.cell? ⟨b, off + j0 * 6 + 3, none⟩ = some (.bool ep) := Nst.at_cell (i := 3) hA (by rw [HLN.out]; exact hlt) hcs rfl
      have cc4 : wr.drew.cell? ⟨b, off + j0 * 6 + 4, none⟩ = some (uu) := Nst.at_cell (i := 4) hA (by rw [HLN.out]; exact hlt) hcs rfl
      have cc5 : wr.drew.cell? ⟨b, off + j0 * 6 + 5, none⟩ = some (uv) := Nst.at_cell (i := 5) hA (by rw [HLN.out]; exact hlt) hcs rfl
      have ee0 : wr.drew.cell? ⟨b', off' + j0 * 6, none⟩ = some (.string ⟨et.toArray⟩) := Nst.at_cell (i := 0) hA' (by rw [HLN'.out]; exact hlt) hcs' rfl
      have ee1 : wr.drew.cell? ⟨b', off' + j0 * 6 + 1, none⟩ = some (.string ⟨ec.toArray⟩) := Nst.at_cell (i := 1) hA' (by rw [HLN'.out]; exact hlt) hcs' rfl
      have ee2 : wr.drew.cell? ⟨b', off' + j0 * 6 + 2, none⟩ = some (.string ⟨ek.toArray⟩) := Nst.at_cell (i := 2) hA' (by rw [HLN'.out]; exact hlt) hcs' rfl
      have ee3 : wr.drew.cell? ⟨b', off' + j0 * 6 + 3, none⟩ = some (.bool ep) := Nst.at_cell (i := 3) hA' (by rw [HLN'.out]; exact hlt) hcs' rfl
      have ee4 : wr.drew.cell? ⟨b', off' + j0 * 6 + 4, none⟩ = some (uu') := Nst.at_cell (i := 4) hA' (by rw [HLN'.out]; exact hlt) hcs' rfl
      have ee5 : wr.drew.cell? ⟨b', off' + j0 * 6 + 5, none⟩ = some (uv') := Nst.at_cell (i := 5) hA' (by rw [HLN'.out]; exact hlt) hcs' rfl
      have HB := Lib.hid hbd
      have HS := Lib.hid (Res.eq_res et ec ek ep uu egs uv evs uu' uv' B B' wr.drew huu huv huu' huv' (Nat.le_trans hB hbd.size) (Nat.le_trans hB' hbd.size) hT.1 hT.2)
      unfold Rec.Yes at HS
      clear hb hbd hA hA' hcs hcs' hT huu huu' huv huv'
      go_wp2
      go_region_with (go_at_call 129; refine HS.out.mono ?_; rintro e wt ⟨rfl, hb1⟩; have HB1 := Lib.hid (Base.then_below HB.out hb1); clear hb1)
      all_goals go_wp2
      all_goals go_roundw
      all_goals first
        | exact ⟨j0 + 1, by omega, by go_num, HB1.out⟩
        | (simp [intOf]; omega)
    · go_wp2
      go_ret
      exact ⟨rfl, hb⟩

theorem eq_same (v v' : Value) (B B' : Nat) (l : List T) (w : World) (h : Holds w B v l) (hB : B ≤ w.heap.size) (h' : Holds w B' v' l) (hB' : B' ≤ w.heap.size) (hl : l.length ≤ 1048576) (ht : ∀ f ∈ l, f.egs.length ≤ 1048576 ∧ f.evs.length ≤ 1048576) :
    Calls Tryz.prog 76 #[v, v'] w (Rec.Yes w) := by
  rcases Nst.holds_cases h with ⟨rfl, a, cap, rfl⟩ | ⟨hp, b, off, cap, rfl, hb, _, rows, h1, h2, h4⟩
  · rcases Nst.holds_cases h' with ⟨_, a', cap', rfl⟩ | ⟨hp, _⟩
    · exact eq_nil a a' cap cap' w
    · exact absurd hp (by simp)
  · rcases Nst.holds_cases h' with ⟨rfl, _⟩ | ⟨_, b', off', cap', rfl, hb', _, rows', h1', h2', h4'⟩
    · exact absurd hp (by simp)
    · exact eq_some b off cap b' off' cap' B B' l rows rows' w h2 h2' h1 h1' hb hb' hB hB' h4 h4' hp hl ht
end Go.Proofs.YtndbhjgfaghelaaGreatDoor.Rsl

/-
  CONTRACT of the laws' toResource: a copy whose lists are the call's own. Nothing that was there before is changed.
-/
namespace Go.Proofs.YtndbhjgfaghelaaGreatDoor.Res
open Go Go.RowKit
set_option linter.unusedVariables false
set_option maxRecDepth 1000000

def Copied (t c k : List UInt8) (p : Bool) (gs : List (List UInt8)) (vs : List Ver.T) (w : World) (e : Ending) (w' : World) : Prop := ∃ u v, e = .returned (.agg #[.string ⟨t.toArray⟩, .string ⟨c.toArray⟩, .string ⟨k.toArray⟩, .bool p, u, v]) ∧ Strs.Own w' w.heap.size u gs ∧ Ver.Own w' w.heap.size v vs ∧ Below w.heap.size w w'
theorem sown_mono {w : World} {B B' : Nat} {v : Value} {xs : List (List UInt8)} (h : Strs.Own w B v xs) (hB : B' ≤ B) : Strs.Own w B' v xs := Rec.own_mono h hB
theorem sown_below {w w' : World} {B : Nat} {v : Value} {xs : List (List UInt8)} (h : Strs.Own w B v xs) (hb : Below w.heap.size w w') : Strs.Own w' B v xs := Rec.row_below h hb

theorem keep_set {w1 w2 : World} {g o b j : Nat} {v u : Value} (hb2 : Below (w1.setCell ⟨g, o, none⟩ v).heap.size (w1.setCell ⟨g, o, none⟩ v) w2) (hq : w1.cell? ⟨b, j, none⟩ = some u) (hne : ¬ (g = b ∧ o = j)) : w2.cell? ⟨b, j, none⟩ = some u := by
  rw [hb2.cell (p := ⟨b, j, none⟩) (by rw [World.size_setCell]; exact Rec.lt_of_cell hq), World.cell?_setCell_other _ _ _ _ (fun e => hne (by cases e; exact ⟨rfl, rfl⟩))]; exact hq
theorem at_set {w1 w2 : World} {g o : Nat} {v u : Value} (hb2 : Below (w1.setCell ⟨g, o, none⟩ v).heap.size (w1.setCell ⟨g, o, none⟩ v) w2) (hq : w1.cell? ⟨g, o, none⟩ = some u) : w2.cell? ⟨g, o, none⟩ = some v := by
  rw [hb2.cell (p := ⟨g, o, none⟩) (by rw [World.size_setCell]; exact Rec.lt_of_cell hq), World.cell?_setCell_same _ _ _ hq]
theorem frz_set {w1 w2 : World} {g o b j : Nat} {v u : Value} (hb2 : Below (w1.setCell ⟨g, o, none⟩ v).heap.size (w1.setCell ⟨g, o, none⟩ v) w2) (hq : w1.cell? ⟨b, j, none⟩ = some u) (hf : w1.frozen? ⟨b, j, none⟩ = false) : w2.frozen? ⟨b, j, none⟩ = false := by
  rw [hb2.frozen (p := ⟨b, j, none⟩) (by rw [World.size_setCell]; exact Rec.lt_of_cell hq), World.frozen?_setCell]; exact hf

set_option maxHeartbeats 4000000 in
theorem copy_res (t c k : List UInt8) (p : Bool) (u : Value) (gs : List (List UInt8)) (v : Value) (vs : List Ver.T) (B : Nat) (w : World) (h : Strs.Holds w B u gs) (h2 : Ver.Holds w B v vs) (hB : B ≤ w.heap.size) (hl : gs.length ≤ 1048576) (hl2 : vs.length ≤ 1048576) :
    Calls Tryz.prog 118 #[.agg #[.string ⟨t.toArray⟩, .string ⟨c.toArray⟩, .string ⟨k.toArray⟩, .bool p, u, v]] w (Copied t c k p gs vs w) := by
  have HB0 := Lib.hid ((((Below.refl w.heap.size w).alloc (Nat.le_refl _) (.cells #[.string ⟨t.toArray⟩, .string ⟨c.toArray⟩, .string ⟨k.toArray⟩, .bool p, u, v] 146)).alloc (by simp) (.cells #[.string ⟨#[]⟩, .string ⟨#[]⟩, .string ⟨#[]⟩, .bool false, .slice none 0 0, .slice none 0 0] 107)).alloc (by simp; omega) (.cells #[.string ⟨t.toArray⟩, .string ⟨c.toArray⟩, .string ⟨k.toArray⟩, .bool p, .slice none 0 0, .slice none 0 0] 107))
  have HS := Lib.hid (Strs.copy u B gs _ (Strs.holds_below h (HB0.out.mono hB)) (by omega))
  have HV := Lib.hid (fun W (hb : Below w.heap.size w W) => Ver.copy v B vs W (Ver.holds_below h2 (hb.mono hB)) hl2)
  unfold Copied
  clear h h2
  go_enter Tryz.func118, Tryz.ntmps118
  go_wp2_with (fail)
  go_at_call 166
  refine HS.out.mono ?_
  rintro e w1 ⟨x, rfl, ho', hb1⟩
  obtain ⟨a, cap, rfl, _⟩ := Rec.shape_at ho'
  have hk3 := Kept.three hb1
  have hk2 := Kept.two (Kept.below_in hb1)
  have hk1 := Kept.one (Kept.below_in (Kept.below_in hb1))
  have q0 := hk3.1 0 _ rfl
  have q1 := hk3.1 1 _ rfl
  have q2 := hk3.1 2 _ rfl
  have q3 := hk3.1 3 _ rfl
  have q4 := hk3.1 4 _ rfl
  have q5 := hk3.1 5 _ rfl
  have x5 := hk1.1 5 _ rfl
  have fs4 := hk3.2 4
  have fs5 := hk3.2 5
  have r0 := hk2.1 0 _ rfl
  have r1 := hk2.1 1 _ rfl
  have r2 := hk2.1 2 _ rfl
  have r3 := hk2.1 3 _ rfl
  have r4 := hk2.1 4 _ rfl
  have r5 := hk2.1 5 _ rfl
  have fr0 := hk2.2 0
  have fr1 := hk2.2 1
  have fr2 := hk2.2 2
  have fr3 := hk2.2 3
  have fr4 := hk2.2 4
  have fr5 := hk2.2 5
  have HBW := Lib.hid (HB0.out.trans (hb1.mono HB0.out.size))
  have HOX := Lib.hid ho'
  clear ho' hb1 hk3 hk2 hk1
  have HVX := Lib.hid (HV.out (w1.setCell ⟨w.heap.size + 1 + 1, 4, none⟩ (.slice a gs.length cap)) (HBW.out.setCell (by show w.heap.size ≤ w.heap.size + 1 + 1; omega) _))
  go_wp2_with (fail)
  go_at_call 167
  refine HVX.out.mono ?_
  rintro e w2 ⟨y, rfl, ho2, hb2⟩
  obtain ⟨a2, cap2, rfl, _⟩ := Rec.shape_at ho2
  have HSZ : Hid (w.heap.size + 1 + 1 < w1.heap.size) := Lib.hid (Rec.lt_of_cell q0)
  have hw2 : w1.heap.size ≤ w2.heap.size := by have := hb2.size; rw [World.size_setCell] at this; exact this
  have HB3 := Lib.hid (Base.then_below (HBW.out.setCell (p := ⟨w.heap.size + 1 + 1, 4, none⟩) (by show w.heap.size ≤ w.heap.size + 1 + 1; omega) (.slice a gs.length cap)) hb2)
  have HOY := Lib.hid ho2
  have HOX2 : Hid (w2.ownsRow (w.heap.size + 1 + 1 + 1) 9 1 (.slice a gs.length cap) gs.length (Strs.svs gs)) := Lib.hid (Rec.row_below (ownsRow_setCell_other (a := ⟨w.heap.size + 1 + 1, 4, none⟩) (Rec.own_mono HOX.out (by simp)) (fun e => by have h9 := (HOX.out.lt _ e).1; simp at h9; omega) _) hb2)
  have p0 := keep_set hb2 q0 (by omega)
  have p1 := keep_set hb2 q1 (by omega)
  have p2 := keep_set hb2 q2 (by omega)
  have p3 := keep_set hb2 q3 (by omega)
  have p5 := keep_set hb2 q5 (by omega)
  have p4 := at_set hb2 q4
  have ps5 := frz_set hb2 q5 fs5
  have t0 := keep_set hb2 r0 (by omega)
  have tf0 := frz_set hb2 r0 fr0
  have t1 := keep_set hb2 r1 (by omega)
  have tf1 := frz_set hb2 r1 fr1
  have t2 := keep_set hb2 r2 (by omega)
  have tf2 := frz_set hb2 r2 fr2
  have t3 := keep_set hb2 r3 (by omega)
  have tf3 := frz_set hb2 r3 fr3
  have t4 := keep_set hb2 r4 (by omega)
  have tf4 := frz_set hb2 r4 fr4
  have t5 := keep_set hb2 r5 (by omega)
  have tf5 := frz_set hb2 r5 fr5
  clear q0 q1 q2 q3 q4 q5 r0 r1 r2 r3 r4 r5 fs4 fs5 fr0 fr1 fr2 fr3 fr4 fr5 x5 HOX HVX hb2 ho2
  go_wp2
  refine bodyPost_ret (v := .agg #[.string ⟨t.toArray⟩, .string ⟨c.toArray⟩, .string ⟨k.toArray⟩, .bool p, .slice a gs.length cap, .slice a2 vs.length cap2]) (by simp [results, Tryz.results118, go_sem, t0, t1, t2, t3, t4, t5]) rfl ⟨_, _, rfl, ?_, ?_, ?_⟩
  · have hno : ∀ k, Value.ownBlock (.slice a gs.length cap) = some k → w.heap.size + 1 + 1 < k := fun k e => by have h9 := (HOX2.out.lt k e).1; omega
    have e2 : Value.ownBlock (.slice a gs.length cap) ≠ some (w.heap.size + 1 + 1) := fun e => by have := hno _ e; omega
    have e1 : Value.ownBlock (.slice a gs.length cap) ≠ some (w.heap.size + 1) := fun e => by have := hno _ e; omega
    exact Rec.own_mono (ownsRow_setCell_other (a := ⟨w.heap.size + 1, 5, none⟩) (ownsRow_setCell_other (a := ⟨w.heap.size + 1, 4, none⟩) (ownsRow_setCell_other (a := ⟨w.heap.size + 1, 3, none⟩) (ownsRow_setCell_other (a := ⟨w.heap.size + 1, 2, none⟩) (ownsRow_setCell_other (a := ⟨w.heap.size + 1, 1, none⟩) (ownsRow_setCell_other (a := ⟨w.heap.size + 1, 0, none⟩) (ownsRow_setCell_other (a := ⟨w.heap.size + 1 + 1, 5, none⟩) HOX2.out e2 _) e1 _) e1 _) e1 _) e1 _) e1 _) e1 _) (by omega)
  · have hno : ∀ k, Value.ownBlock (.slice a2 vs.length cap2) = some k → w.heap.size + 1 + 1 < k := fun k e => by
      have h9 := (HOY.out.lt k e).1
      rw [World.size_setCell] at h9
      have h8 := HSZ.out
      omega
    have e2 : Value.ownBlock (.slice a2 vs.length cap2) ≠ some (w.heap.size + 1 + 1) := fun e => by have := hno _ e; omega
    have e1 : Value.ownBlock (.slice a2 vs.length cap2) ≠ some (w.heap.size + 1) := fun e => by have := hno _ e; omega
    exact Rec.own_mono (ownsRow_setCell_other (a := ⟨w.heap.size + 1, 5, none⟩) (ownsRow_setCell_other (a := ⟨w.heap.size + 1, 4, none⟩) (ownsRow_setCell_other (a := ⟨w.heap.size + 1, 3, none⟩) (ownsRow_setCell_other (a := ⟨w.heap.size + 1, 2, none⟩) (ownsRow_setCell_other (a := ⟨w.heap.size + 1, 1, none⟩) (ownsRow_setCell_other (a := ⟨w.heap.size + 1, 0, none⟩) (ownsRow_setCell_other (a := ⟨w.heap.size + 1 + 1, 5, none⟩) HOY.out e2 _) e1 _) e1 _) e1 _) e1 _) e1 _) e1 _) (by rw [World.size_setCell]; have h8 := HSZ.out; omega)
  · exact ((((((HB3.out.setCell (p := ⟨w.heap.size + 1 + 1, 5, none⟩) (by show w.heap.size ≤ w.heap.size + 1 + 1; omega) _).setCell (p := ⟨w.heap.size + 1, 0, none⟩) (by show w.heap.size ≤ w.heap.size + 1; omega) _).setCell (p := ⟨w.heap.size + 1, 1, none⟩) (by show w.heap.size ≤ w.heap.size + 1; omega) _).setCell (p := ⟨w.heap.size + 1, 2, none⟩) (by show w.heap.size ≤ w.heap.size + 1; omega) _).setCell (p := ⟨w.heap.size + 1, 3, none⟩) (by show w.heap.size ≤ w.heap.size + 1; omega) _).setCell (p := ⟨w.heap.size + 1, 4, none⟩) (by show w.heap.size ≤ w.heap.size + 1; omega) _).setCell (p := ⟨w.heap.size + 1, 5, none⟩) (by show w.heap.size ≤ w.heap.size + 1; omega) _
end Go.Proofs.YtndbhjgfaghelaaGreatDoor.Res
