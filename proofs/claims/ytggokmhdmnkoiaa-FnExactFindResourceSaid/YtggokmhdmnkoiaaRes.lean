/-
  CONTRACTS of the laws' helpers for a Resource: an argument of that type, opened; its size (szResource), a copy (toResource), the comparison of two that hold the same (eqResource). Nothing that was there before is changed.
-/
import Derived.Test.YtggokmhdmnkoiaaVerIn
import Derived.Test.YtggokmhdmnkoiaaStrIn
import Derived.Test.YtggokmhdmnkoiaaVerCp
import Derived.Test.YtggokmhdmnkoiaaStrEq
import Derived.Test.YtggokmhdmnkoiaaKept
import Derived.Test.YtggokmhdmnkoiaaFldIn
import Derived.LoopTactic
import Derived.Outline
namespace Go.Proofs.Ytggokmhdmnkoiaa.Res
open Go Go.RowKit
set_option linter.unusedVariables false
set_option maxRecDepth 1000000

def rv (t c k : List UInt8) (p : Bool) (u v : Value) : Value := .agg #[.string ⟨t.toArray⟩, .string ⟨c.toArray⟩, .string ⟨k.toArray⟩, .bool p, u, v]
def Ok (t c k : List UInt8) (gs : List (List UInt8)) (vs : List Ver.T) : Prop := (t.length ≤ maxLen ∧ c.length ≤ maxLen ∧ k.length ≤ maxLen) ∧ (gs.length ≤ maxLen ∧ ∀ x ∈ gs, x.length ≤ maxLen) ∧ (vs.length ≤ maxLen ∧ ∀ f ∈ vs, Ver.Ok f)
def tot (t c k : List UInt8) (gs : List (List UInt8)) (vs : List Ver.T) : Nat := t.length + c.length + k.length + Strs.total gs + Ver.total vs
theorem open_text {H : Type} {enc : TypeId × Value → H} {W : World} {fuel : Nat} {v : Value} {x : DataW H × List MemPlace} (h : DataW.trod enc Try.prog W 0 (fun _ => true) true fuel 9 [v] = some x) : ∃ n : List UInt8, v = .string ⟨n.toArray⟩ ∧ n.length ≤ maxLen := by
  obtain ⟨s1, z1, _, o1⟩ := DataW.trod_string Try.underlying9 h
  obtain rfl : v = _ := by simpa using z1
  exact ⟨s1.data.toList, rfl, by rw [Array.length_toList]; exact o1⟩

set_option maxRecDepth 1000000 in
/-- An argument of type laws.Resource, opened. -/
theorem open_res {H : Type} {enc : TypeId × Value → H} {W : World} {base : Nat} {v : Value} {d : DataW H} {p : List MemPlace}
    (hok : Value.okWide Try.prog W .any base 96 v) (h : DataW.Trod enc Try.prog W 0 (fun _ => true) true 96 v d p) :
    ∃ (t c k : List UInt8) (q : Bool) (u : Value) (gs : List (List UInt8)) (z : Value) (vs : List Ver.T), v = .agg #[.string ⟨t.toArray⟩, .string ⟨c.toArray⟩, .string ⟨k.toArray⟩, .bool q, u, z] ∧ Strs.Holds W W.heap.size u gs ∧ Ver.Holds W W.heap.size z vs ∧ Ok t c k gs vs := by
  obtain ⟨cs', rfl, hsz⟩ := WideShapes.okWide_struct Try.underlying96 hok
  obtain ⟨fuel, hf⟩ := h
  have cels : Try.prog.cellsOf 9 = 1 := by kernel_rfl
  have celb : Try.prog.cellsOf 4 = 1 := by kernel_rfl
  have celf : Try.prog.cellsOf 66 = 1 := by kernel_rfl
  have celg : Try.prog.cellsOf 94 = 1 := by kernel_rfl
  have ce : Try.prog.cellsOf 96 = 6 := by kernel_rfl
  obtain ⟨l⟩ := cs'
  obtain ⟨xs, k, hk, hxy, _, hxl, hg⟩ := DataW.trod_struct Try.underlying96 hf
  match l, hsz.trans ce, xs, hxl with
  | [v0, v1, v2, v3, v4, v5], _, [y0, y1, y2, y3, y4, y5], _ =>
    have g0 := hg 0 _ rfl
    have g1 := hg 1 _ rfl
    have g2 := hg 2 _ rfl
    have g3 := hg 3 _ rfl
    have g4 := hg 4 _ rfl
    have g5 := hg 5 _ rfl
    simp [Value.cells, cels, celb, celf, celg] at g0 g1 g2 g3 g4 g5
    obtain ⟨n0, rfl, hn0⟩ := open_text g0
    obtain ⟨n1, rfl, hn1⟩ := open_text g1
    obtain ⟨n2, rfl, hn2⟩ := open_text g2
    obtain ⟨q, z3, _⟩ := DataW.trod_bool Try.underlying4 g3
    obtain rfl : v3 = _ := by simpa using z3
    obtain ⟨u, gs, hu, hh, hl1, hl2⟩ := Strs.open_cells g4
    obtain rfl : v4 = u := by simpa using hu
    obtain ⟨z, vs, hz, hh2, hm1, hm2⟩ := Ver.open_cells g5
    obtain rfl : v5 = z := by simpa using hz
    exact ⟨n0, n1, n2, q, v4, gs, v5, vs, by simp, hh, hh2, ⟨hn0, hn1, hn2⟩, ⟨hl1, hl2⟩, hm1, hm2⟩

set_option maxHeartbeats 1000000 in
/-- Its size: not below 0 just where it is at most what is left. -/
theorem size_res (t c k : List UInt8) (p : Bool) (u : Value) (gs : List (List UInt8)) (v : Value) (vs : List Ver.T) (left : Int) (B : Nat) (w : World) (h : Strs.Holds w B u gs) (h2 : Ver.Holds w B v vs) (hB : B ≤ w.heap.size) (hok : Ok t c k gs vs) (h0 : 0 ≤ left) (h3 : left ≤ 1048576) :
    Calls Try.prog 53 #[.agg #[.string ⟨t.toArray⟩, .string ⟨c.toArray⟩, .string ⟨k.toArray⟩, .bool p, u, v], .int .i64 left] w fun e w' => ∃ z : Int, e = .returned (.int .i64 z) ∧ (z < 0 ∨ (0 ≤ z ∧ z + ((tot t c k gs vs : Nat) : Int) = left)) ∧ Below w.heap.size w w' := by
  have hs0 : (⟨t.toArray⟩ : ByteArray).size = t.length := by simp [ByteArray.size]
  have hs1 : (⟨c.toArray⟩ : ByteArray).size = c.length := by simp [ByteArray.size]
  have hs2 : (⟨k.toArray⟩ : ByteArray).size = k.length := by simp [ByteArray.size]
  have HB0 := Lib.hid ((Below.refl w.heap.size w).alloc (Nat.le_refl _) (.cells #[.string ⟨t.toArray⟩, .string ⟨c.toArray⟩, .string ⟨k.toArray⟩, .bool p, u, v] 96))
  obtain ⟨⟨hm, hh, ht⟩, ⟨hg1, hg2⟩, hv1, hv2⟩ := hok
  unfold maxLen at hm hh ht
  have HTOT : Hid (tot t c k gs vs = t.length + c.length + k.length + Strs.total gs + Ver.total vs) := Lib.hid rfl
  by_cases q0 : left - (t.length : Int) < 0
  · clear h h2
    go_enter Try.func53, Try.ntmps53
    go_wp2
    go_ret
    exact ⟨_, rfl, Or.inl (by omega), HB0.out⟩
  by_cases q1 : left - (t.length : Int) - (c.length : Int) < 0
  · clear h h2
    go_enter Try.func53, Try.ntmps53
    go_wp2
    go_ret
    exact ⟨_, rfl, Or.inl (by omega), HB0.out⟩
  by_cases q2 : left - (t.length : Int) - (c.length : Int) - (k.length : Int) < 0
  · clear h h2
    go_enter Try.func53, Try.ntmps53
    go_wp2
    go_ret
    exact ⟨_, rfl, Or.inl (by omega), HB0.out⟩
  have HS := Lib.hid (Strs.sizel_any u B gs (left - (t.length : Int) - (c.length : Int) - (k.length : Int)) _ (Strs.holds_below h (HB0.out.mono hB)) hg1 hg2 (by omega) (by omega))
  have HV := Lib.hid (fun (z : Int) (hz0 : 0 ≤ z) (hz3 : z ≤ 1048576) => Ver.size_any v B vs z _ (Ver.holds_below h2 (HB0.out.mono hB)) hv1 hv2 hz0 hz3)
  have HK := Lib.hid (Kept.one (Below.refl _ (w.alloc (.cells #[.string ⟨t.toArray⟩, .string ⟨c.toArray⟩, .string ⟨k.toArray⟩, .bool p, u, v] 96))))
  clear h h2 hg1 hg2 hv1 hv2
  go_enter Try.func53, Try.ntmps53
  go_wp2_with (fail)
  go_at_call 65
  refine HS.out.mono ?_
  rintro e w1 ⟨z, rfl, hz, rfl⟩
  rcases hz with hz | ⟨hz0, hz1⟩
  · go_wp2
    go_ret
    exact ⟨_, rfl, Or.inl (by omega), HB0.out⟩
  · have hzn : ¬ z < 0 := by omega
    have HT := Lib.hid hz1
    have HV2 := Lib.hid (HV.out z hz0 (by omega))
    clear hz1
    go_wp2_with (fail)
    go_at_call 66
    refine HV2.out.mono ?_
    rintro e w2 ⟨y, rfl, hy, hb2⟩
    have HB2 := Lib.hid (HB0.out.trans (hb2.mono (by simp)))
    clear hb2
    rcases hy with hy | ⟨hy0, hy1⟩
    · go_wp2
      go_ret
      exact ⟨_, rfl, Or.inl (by omega), HB2.out⟩
    · have hyn : ¬ y < 0 := by omega
      have HT2 := Lib.hid hy1
      clear hy1
      go_wp2
      go_ret
      exact ⟨_, rfl, Or.inr ⟨by omega, by have := HT.out; have := HT2.out; have := HTOT.out; omega⟩, HB2.out⟩

theorem eq_res (t c k : List UInt8) (p : Bool) (u : Value) (gs : List (List UInt8)) (v : Value) (vs : List Ver.T) (u' v' : Value) (B B' : Nat) (w : World) (h : Strs.Holds w B u gs) (h2 : Ver.Holds w B v vs) (h' : Strs.Holds w B' u' gs) (h2' : Ver.Holds w B' v' vs) (hB : B ≤ w.heap.size) (hB' : B' ≤ w.heap.size) (hl : gs.length ≤ 1048576) (hl2 : vs.length ≤ 1048576) :
    Calls Try.prog 55 #[.agg #[.string ⟨t.toArray⟩, .string ⟨c.toArray⟩, .string ⟨k.toArray⟩, .bool p, u, v], .agg #[.string ⟨t.toArray⟩, .string ⟨c.toArray⟩, .string ⟨k.toArray⟩, .bool p, u', v']] w (Rec.Yes w) := by
  have HB0 := Lib.hid (((Below.refl w.heap.size w).alloc (Nat.le_refl _) (.cells #[.string ⟨t.toArray⟩, .string ⟨c.toArray⟩, .string ⟨k.toArray⟩, .bool p, u, v] 69)).alloc (by simp) (.cells #[.string ⟨t.toArray⟩, .string ⟨c.toArray⟩, .string ⟨k.toArray⟩, .bool p, u', v'] 69))
  have HS := Lib.hid (Strs.eq_same u u' B B' gs _ (Strs.holds_below h (HB0.out.mono hB)) (Strs.holds_below h' (HB0.out.mono hB')) (by omega))
  have HV := Lib.hid (fun W (hb : Below w.heap.size w W) => Ver.eq_same v v' B B' vs W (Ver.holds_below h2 (hb.mono hB)) (Ver.holds_below h2' (hb.mono hB')) hl2)
  have HK := Lib.hid (fun W => Kept.two (w := w) (w1 := W) (o := .cells #[.string ⟨t.toArray⟩, .string ⟨c.toArray⟩, .string ⟨k.toArray⟩, .bool p, u, v] 69) (T := 69) (a := #[.string ⟨t.toArray⟩, .string ⟨c.toArray⟩, .string ⟨k.toArray⟩, .bool p, u', v']))
  have HK1 := Lib.hid (fun W => Kept.one (w := w) (w1 := W) (T := 69) (a := #[.string ⟨t.toArray⟩, .string ⟨c.toArray⟩, .string ⟨k.toArray⟩, .bool p, u, v]))
  unfold Rec.Yes at HV ⊢
  clear h h' h2 h2'
  go_enter Try.func55, Try.ntmps55
  go_wp2_with (fail)
  go_at_call 69
  refine HS.out.mono ?_
  rintro e w1 ⟨rfl, hb1⟩
  have k2 := (HK.out _ hb1).1 5 _ rfl
  have k1 := (HK1.out _ (Kept.below_in hb1)).1 5 _ rfl
  have HBW := Lib.hid (HB0.out.trans (hb1.mono HB0.out.size))
  clear hb1
  go_wp2_with (fail)
  go_at_call 70
  refine (HV.out _ HBW.out).mono ?_
  rintro e w2 ⟨rfl, hb2⟩
  have HBX := Lib.hid (Base.then_below HBW.out hb2)
  clear hb2
  go_wp2
  go_ret
  exact ⟨rfl, HBX.out⟩
end Go.Proofs.Ytggokmhdmnkoiaa.Res
