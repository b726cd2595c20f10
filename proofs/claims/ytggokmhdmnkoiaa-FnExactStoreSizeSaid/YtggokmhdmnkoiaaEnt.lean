/-
  CONTRACTS of the laws' helpers for an Entry: an argument of that type, opened; its size (szEntry), the comparison of two that hold the same (eqEntry). Nothing that was there before is changed.
-/
import Derived.Test.YtggokmhdmnkoiaaMsgRs
import Derived.Test.YtggokmhdmnkoiaaPcs
import Derived.Test.YtggokmhdmnkoiaaPcsArg
import Derived.Test.YtggokmhdmnkoiaaPcsCp
import Derived.Test.YtggokmhdmnkoiaaBox
import Derived.LoopTactic
import Derived.Outline
namespace Go.Proofs.Ytggokmhdmnkoiaa.Ent
open Go Go.RowKit
set_option linter.unusedVariables false
set_option maxRecDepth 1000000
set_option maxRecDepth 1000000

def Ok (k : List UInt8) (ls : List Flds.Fld) (c : Int) (l : List Flds.Fld) (b : List UInt8) (ps : List Pcs.T) (n i g q : Int) : Prop := k.length ≤ maxLen ∧ Msg.FOk ls ∧ Msg.Ok_rsp c l b ∧ (ps.length ≤ maxLen ∧ ∀ f ∈ ps, Pcs.Ok f) ∧ ((Lit.int .i64 n).wf = true ∧ (Lit.int .i64 i).wf = true ∧ (Lit.int .i64 g).wf = true ∧ (Lit.int .i64 q).wf = true)
def tot (k : List UInt8) (ls : List Flds.Fld) (l : List Flds.Fld) (b : List UInt8) (ps : List Pcs.T) : Nat := k.length + Flds.total ls + (Flds.total l + b.length) + Pcs.total ps
theorem rsp_cells {H : Type} {enc : TypeId × Value → H} {W : World} {fuel : Nat} {v0 v1 v2 : Value} {x : DataW H × List MemPlace}
    (hf : DataW.trod enc Try.prog W 0 (fun _ => true) true fuel 77 [v0, v1, v2] = some x) :
    ∃ (c : Int) (l : List Flds.Fld) (b : List UInt8), v0 = .int .i64 c ∧ v2 = .string ⟨b.toArray⟩ ∧ Flds.Holds W W.heap.size v1 l ∧ Msg.Ok_rsp c l b := by
  have celi : Try.prog.cellsOf 3 = 1 := by kernel_rfl
  have cels : Try.prog.cellsOf 9 = 1 := by kernel_rfl
  have celf : Try.prog.cellsOf 75 = 1 := by kernel_rfl
  obtain ⟨xs, k, hk, hxy, _, hxl, hg⟩ := DataW.trod_struct Try.underlying77 hf
  match xs, hxl with
  | [y0, y1, y2], _ =>
    have g0 := hg 0 _ rfl
    have g1 := hg 1 _ rfl
    have g2 := hg 2 _ rfl
    simp [Value.cells, celi, cels, celf] at g0 g1 g2
    obtain ⟨c, z0, _, o0⟩ := DataW.trod_int Try.underlying3 g0
    obtain rfl : v0 = _ := by simpa using z0
    obtain ⟨u, fl, hu, hh, hl1, hl2⟩ := Flds.open_cells g1
    obtain rfl : v1 = u := by simpa using hu
    obtain ⟨n, rfl, hn⟩ := Msg.open_text g2
    exact ⟨c, fl, n, rfl, rfl, hh, Msg.wf_range o0, ⟨hl1, hl2⟩, hn⟩
/-- A slice of pieces that stands in one cell, opened. -/
theorem pcs_cells {H : Type} {enc : TypeId × Value → H} {W : World} {fuel : Nat} {cs0 : List Value} {x : DataW H × List MemPlace}
    (hf : DataW.trod enc Try.prog W 0 (fun _ => true) true fuel 78 cs0 = some x) :
    ∃ (v : Value) (l : List Pcs.T), cs0 = [v] ∧ Pcs.Holds W W.heap.size v l ∧ l.length ≤ maxLen ∧ (∀ f ∈ l, Pcs.Ok f) := by
  have celi : Try.prog.cellsOf 3 = 1 := by kernel_rfl
  have cels : Try.prog.cellsOf 9 = 1 := by kernel_rfl
  have ce : Try.prog.cellsOf 120 = 2 := by kernel_rfl
  rcases Deep.open_slice Try.underlying78 hf with ⟨hcs, hx⟩ | ⟨a, len', cap', m, n, D, Pl, hcs, _, hl, hm, hmm, hx, hall⟩
  · exact ⟨_, [], hcs, Or.inl ⟨rfl, _, _, rfl⟩, Nat.zero_le _, fun f hf => by cases hf⟩
  · simp only [if_true] at hmm
    subst hmm
    have each : ∀ i, i < m → ∃ f : Pcs.T, (∀ k u, (Pcs.cs f)[k]? = some u → W.cell? (a.add (i * 2 + k)) = some u) ∧ Pcs.Ok f := fun i hi => by
      obtain ⟨cs', h1, h2⟩ := hall i hi
      rw [ce] at h1
      obtain ⟨_, hlen, hcell⟩ := World.cells?_some h1
      obtain ⟨xs, k, hk, hxy, _, hxl, hf⟩ := DataW.trod_struct Try.underlying120 h2
      match xs, hxl, cs', hlen with
      | [y0, y1], _, [v0, v1], _ =>
      have g0 := hf 0 _ rfl
      have g1 := hf 1 _ rfl
      simp [celi, cels] at g0 g1
      have e0 := hcell 0 (by omega)
      have e1 := hcell 1 (by omega)
      rw [Deep.add_add] at e0 e1
      obtain ⟨s0, z0, _, o0⟩ := DataW.trod_int Try.underlying3 g0
      obtain rfl : v0 = _ := by simpa using z0
      obtain ⟨s1, z1, _, o1⟩ := DataW.trod_string Try.underlying9 g1
      obtain rfl : v1 = _ := by simpa using z1
      refine ⟨(s0, s1.data.toList), fun k u hu => ?_, ⟨(Msg.wf_range o0), (by show s1.data.toList.length ≤ maxLen; rw [Array.length_toList]; exact o1)⟩⟩
      match k, hu with
      | 0, hu => exact e0.trans hu
      | 1, hu => exact e1.trans hu
      | k + 2, hu => simp [Pcs.cs] at hu
    obtain ⟨G, hG⟩ := Deep.choose_lt (α := Pcs.T) each
    have hln : ((List.range len').map G).length = len' := by simp
    have hget : ∀ j, j < len' → ((List.range len').map G).getD j Pcs.nov = G j := fun j hj => by simp [List.getD, hj]
    refine ⟨_, (List.range len').map G, hcs, ?_, by rw [hln]; omega, ?_⟩
    · by_cases hl0 : len' = 0
      · subst hl0; exact Or.inl ⟨by simp, _, _, rfl⟩
      · obtain ⟨b, off, spot⟩ := a
        have hspot : spot = none := by simpa [Addr.add] using World.cell?_spot ((hG 0 (by omega)).1 0 _ rfl)
        subst hspot
        have hc : Pcs.At W b off ((List.range len').map G) := fun j hj i u hu => by
          rw [hln] at hj
          rw [hget j hj] at hu
          rw [Nat.add_assoc, ← WideShapes.add_plain]
          exact (hG j (by omega)).1 i u hu
        exact Or.inr ⟨by omega, b, off, _, by rw [hln], Pcs.at_lt hc (by omega), by omega, hc⟩
    · intro f hf
      obtain ⟨i, hi, rfl⟩ := List.mem_map.1 hf
      have hi' := List.mem_range.1 hi
      exact (hG i (by omega)).2

/-- An argument of type laws.Entry, opened. -/
theorem open_ent {H : Type} {enc : TypeId × Value → H} {W : World} {base : Nat} {v : Value} {d : DataW H} {p : List MemPlace}
    (hok : Value.okWide Try.prog W .any base 80 v) (h : DataW.Trod enc Try.prog W 0 (fun _ => true) true 80 v d p) :
    ∃ (k : List UInt8) (s : Value) (ls : List Flds.Fld) (c : Int) (u : Value) (l : List Flds.Fld) (b : List UInt8) (p : Value) (ps : List Pcs.T) (n i g q : Int), v = .agg #[.string ⟨k.toArray⟩, s, .int .i64 c, u, .string ⟨b.toArray⟩, p, .int .i64 n, .int .i64 i, .int .i64 g, .int .i64 q] ∧ Flds.Holds W W.heap.size s ls ∧ Flds.Holds W W.heap.size u l ∧ Pcs.Holds W W.heap.size p ps ∧ Ok k ls c l b ps n i g q := by
  obtain ⟨cs', rfl, hsz⟩ := WideShapes.okWide_struct Try.underlying80 hok
  obtain ⟨fuel, hf⟩ := h
  have celi : Try.prog.cellsOf 3 = 1 := by kernel_rfl
  have cels : Try.prog.cellsOf 9 = 1 := by kernel_rfl
  have celf : Try.prog.cellsOf 75 = 1 := by kernel_rfl
  have celp : Try.prog.cellsOf 78 = 1 := by kernel_rfl
  have celr : Try.prog.cellsOf 77 = 3 := by kernel_rfl
  have ce : Try.prog.cellsOf 80 = 10 := by kernel_rfl
  obtain ⟨l⟩ := cs'
  obtain ⟨xs, kk, hk, hxy, _, hxl, hg⟩ := DataW.trod_struct Try.underlying80 hf
  match l, hsz.trans ce, xs, hxl with
  | [v0, v1, v2, v3, v4, v5, v6, v7, v8, v9], _, [y0, y1, y2, y3, y4, y5, y6, y7], _ =>
    have g0 := hg 0 _ rfl
    have g1 := hg 1 _ rfl
    have g2 := hg 2 _ rfl
    have g3 := hg 3 _ rfl
    have g4 := hg 4 _ rfl
    have g5 := hg 5 _ rfl
    have g6 := hg 6 _ rfl
    have g7 := hg 7 _ rfl
    simp [Value.cells, celi, cels, celf, celp, celr] at g0 g1 g2 g3 g4 g5 g6 g7
    obtain ⟨k, rfl, hk⟩ := Msg.open_text g0
    obtain ⟨s, ls, hs, hsh, hs1, hs2⟩ := Flds.open_cells g1
    obtain rfl : v1 = s := by simpa using hs
    obtain ⟨c, fl, b, rfl, rfl, hu, hr⟩ := rsp_cells g2
    obtain ⟨p, ps, hp, hph, hp1, hp2⟩ := pcs_cells g3
    obtain rfl : v5 = p := by simpa using hp
    obtain ⟨n, z4, _, o4⟩ := DataW.trod_int Try.underlying3 g4
    obtain rfl : v6 = _ := by simpa using z4
    obtain ⟨i, z5, _, o5⟩ := DataW.trod_int Try.underlying3 g5
    obtain rfl : v7 = _ := by simpa using z5
    obtain ⟨g, z6, _, o6⟩ := DataW.trod_int Try.underlying3 g6
    obtain rfl : v8 = _ := by simpa using z6
    obtain ⟨q, z7, _, o7⟩ := DataW.trod_int Try.underlying3 g7
    obtain rfl : v9 = _ := by simpa using z7
    exact ⟨k, v1, ls, c, v3, fl, b, v5, ps, n, i, g, q, by simp, hsh, hu, hph, hk, ⟨hs1, hs2⟩, hr, ⟨hp1, hp2⟩, o4, o5, o6, o7⟩

set_option maxHeartbeats 2000000 in
/-- Its size: not below 0 just where it is at most what is left. -/
theorem size_ent (k : List UInt8) (s : Value) (ls : List Flds.Fld) (c : Int) (u : Value) (l : List Flds.Fld) (b : List UInt8) (p : Value) (ps : List Pcs.T) (n i g q : Int) (left : Int) (B : Nat) (w : World) (hs : Flds.Holds w B s ls) (hu : Flds.Holds w B u l) (hp : Pcs.Holds w B p ps) (hB : B ≤ w.heap.size) (hok : Ok k ls c l b ps n i g q) (h0 : 0 ≤ left) (h3 : left ≤ 1048576) :
    Calls Try.prog 41 #[.agg #[.string ⟨k.toArray⟩, s, .int .i64 c, u, .string ⟨b.toArray⟩, p, .int .i64 n, .int .i64 i, .int .i64 g, .int .i64 q], .int .i64 left] w fun e w' => ∃ z : Int, e = .returned (.int .i64 z) ∧ (z < 0 ∨ (0 ≤ z ∧ z + ((tot k ls l b ps : Nat) : Int) = left)) ∧ Below w.heap.size w w' := by
  have hs0 : (⟨k.toArray⟩ : ByteArray).size = k.length := by simp [ByteArray.size]
  have HB0 := Lib.hid ((Below.refl w.heap.size w).alloc (Nat.le_refl _) (.cells #[.string ⟨k.toArray⟩, s, .int .i64 c, u, .string ⟨b.toArray⟩, p, .int .i64 n, .int .i64 i, .int .i64 g, .int .i64 q] 80))
  have HBX := Lib.hid (fun W (hb : Below (w.alloc (.cells #[.string ⟨k.toArray⟩, s, .int .i64 c, u, .string ⟨b.toArray⟩, p, .int .i64 n, .int .i64 i, .int .i64 g, .int .i64 q] 80)).heap.size (w.alloc (.cells #[.string ⟨k.toArray⟩, s, .int .i64 c, u, .string ⟨b.toArray⟩, p, .int .i64 n, .int .i64 i, .int .i64 g, .int .i64 q] 80)) W) => (Kept.Box.new (w := w) (T := 80) (a := #[.string ⟨k.toArray⟩, s, .int .i64 c, u, .string ⟨b.toArray⟩, p, .int .i64 n, .int .i64 i, .int .i64 g, .int .i64 q])).below hb)
  obtain ⟨hk, hsf, hr, ⟨hp1, hp2⟩, _⟩ := hok
  unfold maxLen at hk
  have HTOT : Hid (tot k ls l b ps = k.length + Flds.total ls + (Flds.total l + b.length) + Pcs.total ps) := Lib.hid rfl
  have HS := Lib.hid (fun (z : Int) (hz0 : 0 ≤ z) (hz3 : z ≤ 1048576) => Flds.size_any s B ls z _ (Flds.holds_below hs (HB0.out.mono hB)) hsf.1 hsf.2 hz0 hz3)
  have HR := Lib.hid (fun (z : Int) (hz0 : 0 ≤ z) (hz3 : z ≤ 1048576) W (hb : Below w.heap.size w W) => Msg.size_rsp c u l b z B W (Flds.holds_below hu (hb.mono hB)) (Nat.le_trans hB hb.size) hr hz0 hz3)
  have HP := Lib.hid (fun (z : Int) (hz0 : 0 ≤ z) (hz3 : z ≤ 1048576) W (hb : Below w.heap.size w W) => Pcs.size_any p B ps z W (Pcs.holds_below hp (hb.mono hB)) hp1 hp2 hz0 hz3)
  clear hs hu hp hsf hr hp1 hp2
  by_cases q0 : left - (k.length : Int) < 0
  · go_enter Try.func41, Try.ntmps41
    go_wp2
    go_ret
    exact ⟨_, rfl, Or.inl (by omega), HB0.out⟩
  go_enter Try.func41, Try.ntmps41
  go_wp2_with (fail)
  go_at_call 56
  refine (HS.out (left - (k.length : Int)) (by omega) (by omega)).mono ?_
  rintro e w1 ⟨z1, rfl, hz1, hb1⟩
  have HR1 := Lib.hid hb1
  have HB1 := Lib.hid (HB0.out.trans (hb1.mono HB0.out.size))
  have x0 := (HBX.out _ hb1).cell 2 _ rfl
  have x1 := (HBX.out _ hb1).cell 3 _ rfl
  have x2 := (HBX.out _ hb1).cell 4 _ rfl
  clear hb1
  rcases hz1 with hz1 | ⟨hz10, hz11⟩
  · go_wp2
    go_ret
    exact ⟨_, rfl, Or.inl (by omega), HB1.out⟩
  have hzn1 : ¬ z1 < 0 := by omega
  have HT1 := Lib.hid hz11
  have HR' := Lib.hid (HR.out z1 hz10 (by omega) _ HB1.out)
  clear hz11
  go_wp2_with (fail)
  go_at_call 57
  refine HR'.out.mono ?_
  rintro e w2 ⟨z2, rfl, hz2, hb2⟩
  have HR2 := Lib.hid (Base.then_below HR1.out hb2)
  have HB2 := Lib.hid (Base.then_below HB1.out hb2)
  clear hb2 x0 x1 x2
  have x5 := (HBX.out _ HR2.out).cell 5 _ rfl
  rcases hz2 with hz2 | ⟨hz20, hz21⟩
  · go_wp2
    go_ret
    exact ⟨_, rfl, Or.inl (by omega), HB2.out⟩
  have hzn2 : ¬ z2 < 0 := by omega
  have HT2 := Lib.hid hz21
  have HP' := Lib.hid (HP.out z2 hz20 (by have := HT1.out; omega) _ HB2.out)
  clear hz21
  go_wp2_with (fail)
  go_at_call 58
  refine HP'.out.mono ?_
  rintro e w3 ⟨z3, rfl, hz3, hb3⟩
  have HB3 := Lib.hid (Base.then_below HB2.out hb3)
  clear hb3
  rcases hz3 with hz3 | ⟨hz30, hz31⟩
  · go_wp2
    go_ret
    exact ⟨_, rfl, Or.inl (by omega), HB3.out⟩
  have hzn3 : ¬ z3 < 0 := by omega
  have HT3 := Lib.hid hz31
  clear hz31
  go_wp2
  go_ret
  exact ⟨_, rfl, Or.inr ⟨by omega, by have := HT1.out; have := HT2.out; have := HT3.out; have := HTOT.out; omega⟩, HB3.out⟩

set_option maxHeartbeats 2000000 in
theorem eq_ent (k : List UInt8) (s : Value) (ls : List Flds.Fld) (c : Int) (u : Value) (l : List Flds.Fld) (b : List UInt8) (p : Value) (ps : List Pcs.T) (n i g q : Int) (s' u' p' : Value) (B B' : Nat) (w : World) (hs : Flds.Holds w B s ls) (hu : Flds.Holds w B u l) (hp : Pcs.Holds w B p ps) (hB : B ≤ w.heap.size) (hs' : Flds.Holds w B' s' ls) (hu' : Flds.Holds w B' u' l) (hp' : Pcs.Holds w B' p' ps) (hB' : B' ≤ w.heap.size) (h1 : ls.length ≤ 1048576) (h2 : l.length ≤ 1048576) (h3 : ps.length ≤ 1048576) :
    Calls Try.prog 44 #[.agg #[.string ⟨k.toArray⟩, s, .int .i64 c, u, .string ⟨b.toArray⟩, p, .int .i64 n, .int .i64 i, .int .i64 g, .int .i64 q], .agg #[.string ⟨k.toArray⟩, s', .int .i64 c, u', .string ⟨b.toArray⟩, p', .int .i64 n, .int .i64 i, .int .i64 g, .int .i64 q]] w (Rec.Yes w) := by
  have HB0 := Lib.hid (((Below.refl w.heap.size w).alloc (Nat.le_refl _) (.cells #[.string ⟨k.toArray⟩, s, .int .i64 c, u, .string ⟨b.toArray⟩, p, .int .i64 n, .int .i64 i, .int .i64 g, .int .i64 q] 58)).alloc (by simp) (.cells #[.string ⟨k.toArray⟩, s', .int .i64 c, u', .string ⟨b.toArray⟩, p', .int .i64 n, .int .i64 i, .int .i64 g, .int .i64 q] 58))
  have HBX := Lib.hid (fun W (hb : Below ((w.alloc (.cells #[.string ⟨k.toArray⟩, s, .int .i64 c, u, .string ⟨b.toArray⟩, p, .int .i64 n, .int .i64 i, .int .i64 g, .int .i64 q] 58)).alloc (.cells #[.string ⟨k.toArray⟩, s', .int .i64 c, u', .string ⟨b.toArray⟩, p', .int .i64 n, .int .i64 i, .int .i64 g, .int .i64 q] 58)).heap.size ((w.alloc (.cells #[.string ⟨k.toArray⟩, s, .int .i64 c, u, .string ⟨b.toArray⟩, p, .int .i64 n, .int .i64 i, .int .i64 g, .int .i64 q] 58)).alloc (.cells #[.string ⟨k.toArray⟩, s', .int .i64 c, u', .string ⟨b.toArray⟩, p', .int .i64 n, .int .i64 i, .int .i64 g, .int .i64 q] 58)) W) => ((Kept.Box.new (w := w) (T := 58) (a := #[.string ⟨k.toArray⟩, s, .int .i64 c, u, .string ⟨b.toArray⟩, p, .int .i64 n, .int .i64 i, .int .i64 g, .int .i64 q])).alloc (.cells #[.string ⟨k.toArray⟩, s', .int .i64 c, u', .string ⟨b.toArray⟩, p', .int .i64 n, .int .i64 i, .int .i64 g, .int .i64 q] 58)).below hb)
  have HBY := Lib.hid (fun W (hb : Below ((w.alloc (.cells #[.string ⟨k.toArray⟩, s, .int .i64 c, u, .string ⟨b.toArray⟩, p, .int .i64 n, .int .i64 i, .int .i64 g, .int .i64 q] 58)).alloc (.cells #[.string ⟨k.toArray⟩, s', .int .i64 c, u', .string ⟨b.toArray⟩, p', .int .i64 n, .int .i64 i, .int .i64 g, .int .i64 q] 58)).heap.size ((w.alloc (.cells #[.string ⟨k.toArray⟩, s, .int .i64 c, u, .string ⟨b.toArray⟩, p, .int .i64 n, .int .i64 i, .int .i64 g, .int .i64 q] 58)).alloc (.cells #[.string ⟨k.toArray⟩, s', .int .i64 c, u', .string ⟨b.toArray⟩, p', .int .i64 n, .int .i64 i, .int .i64 g, .int .i64 q] 58)) W) => (Kept.Box.new (w := w.alloc (.cells #[.string ⟨k.toArray⟩, s, .int .i64 c, u, .string ⟨b.toArray⟩, p, .int .i64 n, .int .i64 i, .int .i64 g, .int .i64 q] 58)) (T := 58) (a := #[.string ⟨k.toArray⟩, s', .int .i64 c, u', .string ⟨b.toArray⟩, p', .int .i64 n, .int .i64 i, .int .i64 g, .int .i64 q])).below hb)
  rw [show (w.alloc (.cells #[.string ⟨k.toArray⟩, s, .int .i64 c, u, .string ⟨b.toArray⟩, p, .int .i64 n, .int .i64 i, .int .i64 g, .int .i64 q] 58)).heap.size = w.heap.size + 1 by simp] at HBY
  have HS := Lib.hid (fun W (hb : Below w.heap.size w W) => Flds.eq_same s s' B B' ls W (Flds.holds_below hs (hb.mono hB)) (Flds.holds_below hs' (hb.mono hB')) h1)
  have HR := Lib.hid (fun W (hb : Below w.heap.size w W) => Msg.eq_rsp c u l b u' B B' W (Flds.holds_below hu (hb.mono hB)) (Flds.holds_below hu' (hb.mono hB')) (Nat.le_trans hB hb.size) (Nat.le_trans hB' hb.size) h2)
  have HP := Lib.hid (fun W (hb : Below w.heap.size w W) => Pcs.eq_same p p' B B' ps W (Pcs.holds_below hp (hb.mono hB)) (Pcs.holds_below hp' (hb.mono hB')) h3)
  unfold Flds.Yes at HS
  unfold Rec.Yes at HR HP ⊢
  clear hs hs' hu hu' hp hp'
  go_enter Try.func44, Try.ntmps44
  go_wp2_with (fail)
  go_at_call 62
  refine (HS.out _ HB0.out).mono ?_
  rintro e w1 ⟨rfl, hb1⟩
  have HR1 := Lib.hid hb1
  have HB1 := Lib.hid (HB0.out.trans (hb1.mono HB0.out.size))
  have x2 := (HBX.out _ hb1).cell 2 _ rfl
  have x3 := (HBX.out _ hb1).cell 3 _ rfl
  have x4 := (HBX.out _ hb1).cell 4 _ rfl
  have y2 := (HBY.out _ hb1).cell 2 _ rfl
  have y3 := (HBY.out _ hb1).cell 3 _ rfl
  have y4 := (HBY.out _ hb1).cell 4 _ rfl
  clear hb1
  go_wp2_with (fail)
  go_at_call 63
  refine (HR.out _ HB1.out).mono ?_
  rintro e w2 ⟨rfl, hb2⟩
  have HR2 := Lib.hid (Base.then_below HR1.out hb2)
  have HB2 := Lib.hid (Base.then_below HB1.out hb2)
  clear hb2 x2 x3 x4 y2 y3 y4
  have x5 := (HBX.out _ HR2.out).cell 5 _ rfl
  have y5 := (HBY.out _ HR2.out).cell 5 _ rfl
  go_wp2_with (fail)
  go_at_call 64
  refine (HP.out _ HB2.out).mono ?_
  rintro e w3 ⟨rfl, hb3⟩
  have HR3 := Lib.hid (Base.then_below HR2.out hb3)
  have HB3 := Lib.hid (Base.then_below HB2.out hb3)
  clear hb3 x5 y5
  have x6 := (HBX.out _ HR3.out).cell 6 _ rfl
  have x7 := (HBX.out _ HR3.out).cell 7 _ rfl
  have x8 := (HBX.out _ HR3.out).cell 8 _ rfl
  have x9 := (HBX.out _ HR3.out).cell 9 _ rfl
  have y6 := (HBY.out _ HR3.out).cell 6 _ rfl
  have y7 := (HBY.out _ HR3.out).cell 7 _ rfl
  have y8 := (HBY.out _ HR3.out).cell 8 _ rfl
  have y9 := (HBY.out _ HR3.out).cell 9 _ rfl
  go_wp2
  go_ret
  exact ⟨rfl, HB3.out⟩
end Go.Proofs.Ytggokmhdmnkoiaa.Ent
