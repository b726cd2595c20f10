/-
  CONTRACTS of the laws' helpers for slices of Resource (written by nst.py): opened, their size, the comparison of two that hold the same. Nothing that was there before is changed.
-/
import Derived.Test.YtggokmhdmnkoiaaNst
import Derived.Test.YtggokmhdmnkoiaaRes
import Derived.LoopTactic
import Derived.Outline
import Derived.RegionTactic
import Derived.Deep.RegionWith
namespace Go.Proofs.Ytggokmhdmnkoiaa.Rsl
open Go Go.RowKit
set_option linter.unusedVariables false
set_option maxRecDepth 1000000
set_option maxRecDepth 1000000

structure T where
  et : List UInt8
  ec : List UInt8
  ek : List UInt8
  ep : Bool
  egs : List (List UInt8)
  evs : List Ver.T
def nov : T := ⟨[], [], [], false, [], []⟩
def Ok1 (e : T) : Prop := Res.Ok e.et e.ec e.ek e.egs e.evs
def wt (e : T) : Nat := Res.tot e.et e.ec e.ek e.egs e.evs
def total (l : List T) : Nat := Rec.total wt l
/-- What a row of cells means. -/
def RD (w : World) (B : Nat) (c : List Value) (e : T) : Prop := ∃ uu uv : Value, c = [.string ⟨e.et.toArray⟩, .string ⟨e.ec.toArray⟩, .string ⟨e.ek.toArray⟩, .bool e.ep, uu, uv] ∧ Strs.Holds w B uu e.egs ∧ Ver.Holds w B uv e.evs
theorem rd_below {w w' : World} {B : Nat} (hb : Below B w w') {c : List Value} {e : T} (h : RD w B c e) : RD w' B c e := by
  obtain ⟨uu, uv, hc, huu, huv⟩ := h
  exact ⟨uu, uv, hc, Strs.holds_below huu hb, Ver.holds_below huv hb⟩
theorem rd_more {w : World} {B B' : Nat} (hB : B ≤ B') {c : List Value} {e : T} (h : RD w B c e) : RD w B' c e := by
  obtain ⟨uu, uv, hc, huu, huv⟩ := h
  exact ⟨uu, uv, hc, Strs.holds_more huu hB, Ver.holds_more huv hB⟩
theorem rd_drew {w : World} {B : Nat} {c : List Value} {e : T} (h : RD w B c e) : RD w.drew B c e := h
def Holds (w : World) (B : Nat) (v : Value) (l : List T) : Prop := Nst.Holds 6 RD nov w B v l
theorem holds_below {w w' : World} {B : Nat} {v : Value} {l : List T} (h : Holds w B v l) (hb : Below B w w') : Holds w' B v l := Nst.holds_below (rd_below hb) h hb
theorem holds_more {w : World} {B B' : Nat} {v : Value} {l : List T} (h : Holds w B v l) (hB : B ≤ B') : Holds w B' v l := Nst.holds_more (rd_more hB) h hB
theorem holds_drew {w : World} {B : Nat} {v : Value} {l : List T} (h : Holds w B v l) : Holds w.drew B v l := h
theorem len_le_total (l : List T) : l.length ≤ total l := Rec.len_le_total wt l
theorem mem_total {l : List T} {f : T} (h : f ∈ l) : wt f ≤ total l := Rec.mem_total wt h
theorem row_open {H : Type} {enc : TypeId × Value → H} {W : World} {fuel : Nat} {v0 v1 v2 v3 v4 v5 : Value} {x : DataW H × List MemPlace}
    (hf : DataW.trod enc Try.prog W 0 (fun _ => true) true fuel 96 [v0, v1, v2, v3, v4, v5] = some x) : ∃ e : T, RD W W.heap.size [v0, v1, v2, v3, v4, v5] e ∧ Ok1 e := by
  have cels : Try.prog.cellsOf 9 = 1 := by kernel_rfl
  have celb : Try.prog.cellsOf 4 = 1 := by kernel_rfl
  have celf : Try.prog.cellsOf 66 = 1 := by kernel_rfl
  have celg : Try.prog.cellsOf 94 = 1 := by kernel_rfl
  obtain ⟨xs, kk, hk', hxy, _, hxl, hg⟩ := DataW.trod_struct Try.underlying96 hf
  match xs, hxl with
  | [y0, y1, y2, y3, y4, y5], _ =>
    have g0 := hg 0 _ rfl
    have g1 := hg 1 _ rfl
    have g2 := hg 2 _ rfl
    have g3 := hg 3 _ rfl
    have g4 := hg 4 _ rfl
    have g5 := hg 5 _ rfl
    simp [Value.cells, cels, celb, celf, celg] at g0 g1 g2 g3 g4 g5
    obtain ⟨n0, rfl, hn0⟩ := Res.open_text g0
    obtain ⟨n1, rfl, hn1⟩ := Res.open_text g1
    obtain ⟨n2, rfl, hn2⟩ := Res.open_text g2
    obtain ⟨q, z3, _⟩ := DataW.trod_bool Try.underlying4 g3
    obtain rfl : v3 = _ := by simpa using z3
    obtain ⟨u, gs, hu, hh, hl1, hl2⟩ := Strs.open_cells g4
    obtain rfl : v4 = u := by simpa using hu
    obtain ⟨z, vs, hz, hh2, hm1, hm2⟩ := Ver.open_cells g5
    obtain rfl : v5 = z := by simpa using hz
    exact ⟨⟨n0, n1, n2, q, gs, vs⟩, ⟨v4, v5, rfl, hh, hh2⟩, ⟨hn0, hn1, hn2⟩, ⟨hl1, hl2⟩, hm1, hm2⟩
/-- A slice of Resource that stands in one cell, opened. -/
theorem open_cells {H : Type} {enc : TypeId × Value → H} {W : World} {fuel : Nat} {cs0 : List Value} {x : DataW H × List MemPlace}
    (hf : DataW.trod enc Try.prog W 0 (fun _ => true) true fuel 38 cs0 = some x) :
    ∃ (v : Value) (l : List T), cs0 = [v] ∧ Holds W W.heap.size v l ∧ l.length ≤ maxLen ∧ (∀ f ∈ l, Ok1 f) := by
  have ce : Try.prog.cellsOf 96 = 6 := by kernel_rfl
  rcases Deep.open_slice Try.underlying38 hf with ⟨hcs, hx⟩ | ⟨a, len', cap', m, n, D, Pl, hcs, _, hl, hm, hmm, hx, hall⟩
  · exact ⟨_, [], hcs, Nst.holds_nil _ _ _ _, Nat.zero_le _, fun f hf => by cases hf⟩
  · simp only [if_true] at hmm
    subst hmm
    have each : ∀ i, i < m → ∃ f : Nst.Row 6 × T, (∀ k u, f.1.l[k]? = some u → W.cell? (a.add (i * 6 + k)) = some u) ∧ RD W W.heap.size f.1.l f.2 ∧ Ok1 f.2 := fun i hi => by
      obtain ⟨cs', h1, h2⟩ := hall i hi
      rw [ce] at h1
      obtain ⟨_, hlen, hcell⟩ := World.cells?_some h1
      match cs', hlen with
      | [v0, v1, v2, v3, v4, v5], hlen =>
        obtain ⟨e, he, hk⟩ := row_open h2
        refine ⟨(⟨[v0, v1, v2, v3, v4, v5], rfl⟩, e), fun k u hu => ?_, he, hk⟩
        have hkl : k < 6 := by
          rcases Nat.lt_or_ge k 6 with h | h
          · exact h
          · rw [List.getElem?_eq_none (by simpa using h)] at hu; cases hu
        have e0 := hcell k hkl
        rw [Deep.add_add] at e0
        rw [e0]
        exact hu
    haveI : Inhabited (Nst.Row 6 × T) := ⟨(Nst.nov 6, nov)⟩
    obtain ⟨G, hG⟩ := Deep.choose_lt (α := Nst.Row 6 × T) each
    have hln : ((List.range len').map fun j => (G j).1).length = len' := by simp
    have hl2 : ((List.range len').map fun j => (G j).2).length = len' := by simp
    have hget : ∀ j, j < len' → ((List.range len').map fun j => (G j).1).getD j (Nst.nov 6) = (G j).1 := fun j hj => by simp [List.getD, hj]
    have hget2 : ∀ j, j < len' → ((List.range len').map fun j => (G j).2).getD j nov = (G j).2 := fun j hj => by simp [List.getD, hj]
    refine ⟨_, (List.range len').map fun j => (G j).2, hcs, ⟨(List.range len').map fun j => (G j).1, by rw [hln, hl2], ?_, fun j hj => ?_⟩, by rw [hl2]; omega, ?_⟩
    · by_cases hl0 : len' = 0
      · subst hl0; exact Or.inl ⟨by simp, _, _, rfl⟩
      · obtain ⟨b, off, spot⟩ := a
        have hlt0 : 0 < (G 0).1.l.length := by rw [(G 0).1.h]; decide
        have hspot : spot = none := by simpa [Addr.add] using World.cell?_spot ((hG 0 (by omega)).1 0 _ (List.getElem?_eq_getElem hlt0))
        subst hspot
        have hc : Rec.At 6 Nst.cs (Nst.nov 6) W b off ((List.range len').map fun j => (G j).1) := fun j hj i u hu => by
          rw [hln] at hj
          rw [hget j hj] at hu
          rw [Nat.add_assoc, ← WideShapes.add_plain]
          exact (hG j (by omega)).1 i u hu
        exact Or.inr ⟨by omega, b, off, _, by rw [hln], Rec.at_lt Nst.cs_len (by decide) hc (by omega), by omega, hc⟩
    · rw [hl2] at hj
      rw [hget j hj, hget2 j hj]
      exact (hG j (by omega)).2.1
    · intro f hf
      obtain ⟨i, hi, rfl⟩ := List.mem_map.1 hf
      have hi' := List.mem_range.1 hi
      exact (hG i (by omega)).2.2

def Sized (l : List T) (left : Int) (w : World) (e : Ending) (w' : World) : Prop := ∃ z : Int, e = .returned (.int .i64 z) ∧ (z < 0 ∨ (0 ≤ z ∧ z + ((total l : Nat) : Int) = left)) ∧ Below w.heap.size w w'
theorem size_nil (a : Option Addr) (cap : Nat) (left : Int) (w : World) (h0 : 0 ≤ left) (h3 : left ≤ 1048576) :
    Calls Try.prog 36 #[.slice a 0 cap, .int .i64 left] w (Sized [] left w) := by
  go_enter Try.func36, Try.ntmps36
  go_wp2
  go_loop [1, 5] (fun l i => i = .int .i64 0 ∧ l = .int .i64 left) (fun _ i => 0)
  case atStart => exact ⟨rfl, by simp⟩
  case round =>
    obtain ⟨rfl, rfl⟩ := hrel
    go_wp2
    go_ret
    exact ⟨_, rfl, Or.inr ⟨by omega, by show left + ((0 : Nat) : Int) = left; simp⟩, Below.refl _ _⟩

def pre (l : List T) (k : Nat) : Nat := Rec.pre wt l k
set_option maxHeartbeats 2000000 in
theorem size_some (b off cap B : Nat) (l : List T) (rows : List (Nst.Row 6)) (left : Int) (w : World) (hc : Rec.At 6 Nst.cs (Nst.nov 6) w b off rows) (hlen : rows.length = l.length) (hbB : b < B) (hB : B ≤ w.heap.size) (hr : ∀ j, j < l.length → RD w B (rows.getD j (Nst.nov 6)).l (l.getD j nov)) (h0 : 0 < l.length) (hl : l.length ≤ maxLen) (hx : ∀ f ∈ l, Ok1 f) (hl0 : 0 ≤ left) (hl3 : left ≤ 1048576) :
    Calls Try.prog 36 #[.slice (some ⟨b, off, none⟩) l.length cap, .int .i64 left] w (Sized l left w) := by
  have hbl : b < w.heap.size := by omega
  have HC := Lib.hid hc
  have HX := Lib.hid hx
  have HRW := Lib.hid hr
  have HLN := Lib.hid hlen
  unfold maxLen at hl
  clear hc hx hr hlen
  by_cases hn : left - (l.length : Int) < 0
  · go_enter Try.func36, Try.ntmps36
    go_wp2
    go_ret
    exact ⟨_, rfl, Or.inl (by omega), Below.refl _ _⟩
  · go_enter Try.func36, Try.ntmps36
    go_wp2
    go_loopw [1, 5] (fun q i wr => ∃ j0 : Nat, j0 ≤ l.length ∧ i = .int .i64 (j0 : Int) ∧ 0 ≤ left - (l.length : Int) - (pre l j0 : Int) ∧ q = .int .i64 (left - (l.length : Int) - (pre l j0 : Int)) ∧ Below w.heap.size w wr) (fun _ i _ => l.length - (intOf i).toNat)
    case atStart => exact ⟨0, Nat.zero_le _, rfl, by unfold pre; rw [Rec.pre_zero]; omega, by unfold pre; rw [Rec.pre_zero]; simp, Below.refl _ _⟩
    case round =>
      obtain ⟨j0, hk, rfl, hpp, rfl, hb⟩ := hrel
      by_cases hlt : j0 < l.length
      · have hA := Rec.at_below HC.out (hb.mono (by omega)) hbB
        have HX1 := Lib.hid (HX.out _ (Rec.getD_mem (z := nov) hlt))
        have HP : Hid (pre l (j0 + 1) = pre l j0 + wt (l.getD j0 nov)) := Lib.hid (Rec.pre_more (z := nov) wt hlt)
        have hrk := rd_below (hb.mono hB) (HRW.out j0 hlt)
        generalize l.getD j0 nov = f at hrk HP HX1
        obtain ⟨et, ec, ek, ep, egs, evs⟩ := f
        obtain ⟨uu, uv, hcs, huu, huv⟩ := hrk
        dsimp only at hcs huu huv
        have c0 : wr.cell? ⟨b, off + j0 * 6, none⟩ = some (.string ⟨et.toArray⟩) := Nst.at_cell (i := 0) hA (by rw [HLN.out]; exact hlt) hcs rfl
        have c1 : wr.cell? ⟨b, off + j0 * 6 + 1, none⟩ = some (.string ⟨ec.toArray⟩) := Nst.at_cell (i := 1) hA (by rw [HLN.out]; exact hlt) hcs rfl
        have c2 : wr.cell? ⟨b, off + j0 * 6 + 2, none⟩ = some (.string ⟨ek.toArray⟩) := Nst.at_cell (i := 2) hA (by rw [HLN.out]; exact hlt) hcs rfl
        have c3 : wr.cell? ⟨b, off + j0 * 6 + 3, none⟩ = some (.bool ep) := Nst.at_cell (i := 3) hA (by rw [HLN.out]; exact hlt) hcs rfl
        have c4 : wr.cell? ⟨b, off + j0 * 6 + 4, none⟩ = some (uu) := Nst.at_cell (i := 4) hA (by rw [HLN.out]; exact hlt) hcs rfl
        have c5 : wr.cell? ⟨b, off + j0 * 6 + 5, none⟩ = some (uv) := Nst.at_cell (i := 5) hA (by rw [HLN.out]; exact hlt) hcs rfl
        generalize hr : left - (l.length : Int) - (pre l j0 : Int) = r at hpp ⊢
        have hr' := Lib.hid hr
        clear hr
        have HR : Hid (r ≤ 1048576) := Lib.hid (by have := hr'.out; omega)
        have HB := Lib.hid hb
        have HS := Lib.hid (Res.size_res et ec ek ep uu egs uv evs r B wr huu huv (Nat.le_trans hB hb.size) HX1.out hpp HR.out)
        clear hb hA hcs huu huv
        go_wp2_with (go_at_call 53; refine HS.out.mono ?_; rintro e w' ⟨z, rfl, hz, hb1⟩; have HB1 := Lib.hid (Base.then_below HB.out (hb1.mono (Nat.le_refl _))); clear hb1)
        · go_ret
          exact ⟨_, rfl, Or.inl (by decide), HB1.out⟩
        · have hz' : z + ((Res.tot et ec ek egs evs : Nat) : Int) = r := by omega
          have HZ := Lib.hid hz'
          have HW : Hid (wt ⟨et, ec, ek, ep, egs, evs⟩ = Res.tot et ec ek egs evs) := Lib.hid rfl
          have hr2 := hr'.out
          clear hz'
          go_roundw
          case rel => exact ⟨j0 + 1, by omega, by go_num, by rw [HP.out, HW.out]; have := HZ.out; omega, by rw [HP.out, HW.out]; have := HZ.out; congr 1; omega, HB1.out⟩
          case measure => simp [intOf]; omega
      · obtain rfl : j0 = l.length := by omega
        have HT : Hid (total l = pre l l.length + l.length) := Lib.hid (Rec.pre_all wt rfl)
        go_wp2
        go_ret
        exact ⟨_, rfl, Or.inr ⟨by omega, by have := HT.out; omega⟩, hb⟩

theorem size_any (v : Value) (B : Nat) (l : List T) (left : Int) (w : World) (h : Holds w B v l) (hB : B ≤ w.heap.size) (hl : l.length ≤ maxLen) (hx : ∀ f ∈ l, Ok1 f) (h0 : 0 ≤ left) (h3 : left ≤ 1048576) :
    Calls Try.prog 36 #[v, .int .i64 left] w (Sized l left w) := by
  rcases Nst.holds_cases h with ⟨rfl, a, cap, rfl⟩ | ⟨hp, b, off, cap, rfl, hb, _, rows, h1, h2, h4⟩
  · exact size_nil a cap left w h0 h3
  · exact size_some b off cap B l rows left w h2 h1 hb hB h4 hp hl hx h0 h3

theorem eq_nil (a a' : Option Addr) (cap cap' : Nat) (w : World) :
    Calls Try.prog 40 #[.slice a 0 cap, .slice a' 0 cap'] w (Rec.Yes w) := by
  go_enter Try.func40, Try.ntmps40
  go_wp2
  go_loop [5] (fun i => i = .int .i64 0) (fun i => 0)
  case atStart => rfl
  case round =>
    obtain rfl := hrel
    go_wp2
    go_ret
    exact ⟨rfl, Below.refl _ _⟩

set_option maxHeartbeats 4000000 in
theorem eq_some (b off cap b' off' cap' B B' : Nat) (l : List T) (rows rows' : List (Nst.Row 6)) (w : World) (hc : Rec.At 6 Nst.cs (Nst.nov 6) w b off rows) (hc' : Rec.At 6 Nst.cs (Nst.nov 6) w b' off' rows') (hlen : rows.length = l.length) (hlen' : rows'.length = l.length) (hbB : b < B) (hbB' : b' < B') (hB : B ≤ w.heap.size) (hB' : B' ≤ w.heap.size)
    (hr : ∀ j, j < l.length → RD w B (rows.getD j (Nst.nov 6)).l (l.getD j nov)) (hr' : ∀ j, j < l.length → RD w B' (rows'.getD j (Nst.nov 6)).l (l.getD j nov)) (h0 : 0 < l.length) (hl : l.length ≤ 1048576) (ht : ∀ f ∈ l, f.egs.length ≤ 1048576 ∧ f.evs.length ≤ 1048576) :
    Calls Try.prog 40 #[.slice (some ⟨b, off, none⟩) l.length cap, .slice (some ⟨b', off', none⟩) l.length cap'] w (Rec.Yes w) := by
  have hbl : b < w.heap.size := by omega
  have hbl' : b' < w.heap.size := by omega
  have HC := Lib.hid hc
  have HC' := Lib.hid hc'
  have HRW := Lib.hid hr
  have HRW' := Lib.hid hr'
  have HLN := Lib.hid hlen
  have HLN' := Lib.hid hlen'
  have HTT := Lib.hid ht
  clear hc hc' hr hr' hlen hlen' ht
  go_enter Try.func40, Try.ntmps40
  go_wp2
  go_loopw [5] (fun i wr => ∃ j0 : Nat, j0 ≤ l.length ∧ i = .int .i64 j0 ∧ Below w.heap.size w wr) (fun i _ => l.length - (intOf i).toNat)
  case atStart => exact ⟨0, Nat.zero_le _, rfl, Below.refl _ _⟩
  case round =>
    obtain ⟨j0, hk, rfl, hb⟩ := hrel
    by_cases hlt : j0 < l.length
    · have hbd := Rec.below_drew hb
      have hA := Rec.at_below HC.out (hbd.mono (by omega)) hbB
      have hA' := Rec.at_below HC'.out (hbd.mono (by omega)) hbB'
      have hT := HTT.out _ (Rec.getD_mem (z := nov) hlt)
      have hrk := rd_below (hbd.mono hB) (HRW.out j0 hlt)
      have hrk' := rd_below (hbd.mono hB') (HRW'.out j0 hlt)
      generalize l.getD j0 nov = f at hrk hrk' hT
      obtain ⟨et, ec, ek, ep, egs, evs⟩ := f
      obtain ⟨uu, uv, hcs, huu, huv⟩ := hrk
      obtain ⟨uu', uv', hcs', huu', huv'⟩ := hrk'
      dsimp only at hcs huu huv hcs' huu' huv' hT
      have cc0 : wr.drew.cell? ⟨b, off + j0 * 6, none⟩ = some (.string ⟨et.toArray⟩) := Nst.at_cell (i := 0) hA (by rw [HLN.out]; exact hlt) hcs rfl
      have cc1 : wr.drew.cell? ⟨b, off + j0 * 6 + 1, none⟩ = some (.string ⟨ec.toArray⟩) := Nst.at_cell (i := 1) hA (by rw [HLN.out]; exact hlt) hcs rfl
      have cc2 : wr.drew.cell? ⟨b, off + j0 * 6 + 2, none⟩ = some (.string ⟨ek.toArray⟩) := Nst.at_cell (i := 2) hA (by rw [HLN.out]; exact hlt) hcs rfl
      have cc3 : wr.drew.cell? ⟨b, off + j0 * 6 + 3, none⟩ = some (.bool ep) := Nst.at_cell (i := 3) hA (by rw [HLN.out]; exact hlt) hcs rfl
      have cc4 : wr.drew.cell? ⟨b, off + j0 * 6 + 4, none⟩ = some (uu) := Nst.at_cell (i := 4) hA (by rw [HLN.out]; exact hlt) hcs rfl
      have cc5 : wr.drew.cell? ⟨b, off + j0 * 6 + 5, none⟩ = some (uv) := Nst.at_cell (i := 5) hA (by rw [HLN.out]; exact hlt) hcs rfl
      have ee0 : wr.drew.cell? ⟨b', off' + j0 * 6, none⟩ = some (.string ⟨et.toArray⟩) := Nst.at_cell (i := 0) hA' (by rw [HLN'.out]; exact hlt) hcs' rfl
      have ee1 : wr.drew.cell? ⟨b', off' + j0 * 6 + 1, none⟩ = some (.string ⟨ec.toArray⟩) := Nst.at_cell (i := 1) hA' (by rw [HLN'.out]; exact hlt) hcs' rfl
      have ee2 : wr.drew.cell? ⟨b', off' + j0 * 6 + 2, none⟩ = some (.string ⟨ek.toArray⟩) := Nst.at_cell (i := 2) hA' (by rw [HLN'.out]; exact hlt) hcs' rfl
      have ee3 : wr.drew.cell? ⟨b', off' + j0 * 6 + 3, none⟩ = some (.bool ep) := Nst.at_cell (i := 3) hA' (by rw [HLN'.out]; exact hlt) hcs' rfl
      have ee4 : wr.drew.cell? ⟨b', off' + j0 * 6 + 4, none⟩ = some (uu') := Nst.at_cell (i := 4) hA' (by rw [HLN'.out]; exact hlt) hcs' rfl
      have ee5 : wr.drew.cell? ⟨b', off' + j0 * 6 + 5, none⟩ = some (uv') := Nst.at_cell (i := 5) hA' (by rw [HLN'.out]; exact hlt) hcs' rfl
      have HB := Lib.hid hbd
      have HS := Lib.hid (Res.eq_res et ec ek ep uu egs uv evs uu' uv' B B' wr.drew huu huv huu' huv' (Nat.le_trans hB hbd.size) (Nat.le_trans hB' hbd.size) hT.1 hT.2)
      unfold Rec.Yes at HS
      clear hb hbd hA hA' hcs hcs' hT huu huu' huv huv'
      go_wp2
      go_region_with (go_at_call 55; refine HS.out.mono ?_; rintro e wt ⟨rfl, hb1⟩; have HB1 := Lib.hid (Base.then_below HB.out hb1); clear hb1)
      all_goals go_wp2
      all_goals go_roundw
      all_goals first
        | exact ⟨j0 + 1, by omega, by go_num, HB1.out⟩
        | (simp [intOf]; omega)
    · go_wp2
      go_ret
      exact ⟨rfl, hb⟩

theorem eq_same (v v' : Value) (B B' : Nat) (l : List T) (w : World) (h : Holds w B v l) (hB : B ≤ w.heap.size) (h' : Holds w B' v' l) (hB' : B' ≤ w.heap.size) (hl : l.length ≤ 1048576) (ht : ∀ f ∈ l, f.egs.length ≤ 1048576 ∧ f.evs.length ≤ 1048576) :
    Calls Try.prog 40 #[v, v'] w (Rec.Yes w) := by
  rcases Nst.holds_cases h with ⟨rfl, a, cap, rfl⟩ | ⟨hp, b, off, cap, rfl, hb, _, rows, h1, h2, h4⟩
  · rcases Nst.holds_cases h' with ⟨_, a', cap', rfl⟩ | ⟨hp, _⟩
    · exact eq_nil a a' cap cap' w
    · exact absurd hp (by simp)
  · rcases Nst.holds_cases h' with ⟨rfl, _⟩ | ⟨_, b', off', cap', rfl, hb', _, rows', h1', h2', h4'⟩
    · exact absurd hp (by simp)
    · exact eq_some b off cap b' off' cap' B B' l rows rows' w h2 h2' h1 h1' hb hb' hB hB' h4 h4' hp hl ht
end Go.Proofs.Ytggokmhdmnkoiaa.Rsl
