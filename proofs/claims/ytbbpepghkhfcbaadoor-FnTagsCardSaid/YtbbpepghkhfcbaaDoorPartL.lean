/-
  CONTRACTS AND PLAIN FACTS, several texts in one; each says in its own words what it proves.
-/
import Derived.Test.YtbbpepghkhfcbaaDoorPartK
set_option linter.unusedSimpArgs false
set_option linter.unusedVariables false

/-
  THE WALK of the law of chapter 7.
-/
namespace Go.Proofs.YtbbpepghkhfcbaaDoor.fnTags
open Go Go.RowKit
set_option linter.unusedVariables false
set_option maxRecDepth 1000000

/-- Block g holds a tag. -/
def Bx (w : World) (g : Nat) (x : Bool) (y : List UInt8) : Prop := w.cell? ⟨g, 0, none⟩ = some (.bool x) ∧ w.cell? ⟨g, 1, none⟩ = some (.string ⟨y.toArray⟩)
theorem bx_below {w w' : World} {g : Nat} {x : Bool} {y : List UInt8} (h : Bx w g x y) (hb : Below w.heap.size w w') : Bx w' g x y :=
  ⟨(hb.cell (p := ⟨g, 0, none⟩) (Rec.lt_of_cell h.1)).trans h.1, (hb.cell (p := ⟨g, 1, none⟩) (Rec.lt_of_cell h.1)).trans h.2⟩
theorem bx_new (w : World) (x : Bool) (y : List UInt8) (T : TypeId) : Bx (w.alloc (.cells #[.bool x, .string ⟨y.toArray⟩] T)) w.heap.size x y := ⟨by rw [World.cell?_alloc_new]; rfl, by rw [World.cell?_alloc_new]; rfl⟩

theorem shape_t {w : World} {B : Nat} {v : Value} {l : List Tgs.T} (h : Tgs.Holds w B v l) : ∃ a cap, v = .slice a l.length cap ∧ (0 < l.length → ∃ b off, a = some ⟨b, off, none⟩ ∧ b < B ∧ Tgs.At w b off l) := by
  rcases Tgs.holds_iff h with ⟨rfl, a, cap, rfl⟩ | ⟨h0, b, off, cap, rfl, hb, _, hc⟩
  · exact ⟨a, cap, rfl, fun h => by simp at h⟩
  · exact ⟨_, cap, rfl, fun _ => ⟨b, off, rfl, hb, hc⟩⟩

set_option maxHeartbeats 8000000 in
theorem walk (b0 : Option Addr) (l0 c0 : Nat) (w0 : l0 ≤ maxLen) (w : World) (y0 : l0 ≤ 1048576 → Cur.Bytes w w.heap.size (.slice b0 l0 c0)) :
    Calls Tryd.prog 3 #[.slice b0 l0 c0] w fun e w' => e = .returned (.bool true) ∧ Below w.heap.size w w' := by
  clear w0
  by_cases hbig : 1048576 < (l0 : Int)
  · go_enter Tryd.func3, Tryd.ntmps3
    go_wp2_with (go_at_call 4; refine (Cur.big_yes _ _ _ _ hbig).mono ?_; rintro e w' ⟨rfl, rfl⟩)
    go_ret
    exact ⟨rfl, Below.refl _ _⟩
  have HBY := Lib.hid (y0 (by omega))
  clear y0
  go_enter Tryd.func3, Tryd.ntmps3
  go_wp2_with (fail)
  go_at_call 4
  refine (Cur.big_no _ _ _ _ (by omega)).mono ?_
  rintro e w' ⟨rfl, rfl⟩
  go_wp2_with (fail)
  go_at_call 5
  refine (Cur.draw_ft _ _ _ HBY.out (Nat.le_refl _)).mono ?_
  rintro e w1 ⟨x, y, hy, rfl, b1⟩
  have HYL := Lib.hid hy
  have HT1 := Lib.hid (bx_new w1 x y 25)
  have B1 := Lib.hid (b1.alloc b1.size (.cells #[.bool x, .string ⟨y.toArray⟩] 25))
  have HF := Lib.hid (fun W => Tgs.impl_fmt x y W (by omega))
  have hfl := Tgs.ftag_len x y
  have HP := Lib.hid (fun W => Tgs.impl_ptag (Tgs.ftag (x, y)) W (by omega))
  have HPY := Lib.hid (fun h => Tgs.ptag_yes x (y := y) h)
  have HPN := Lib.hid (fun h => Tgs.ptag_no x (y := y) h)
  unfold Tgs.TxtEnd at HF
  unfold Tgs.ParEnd at HP
  generalize Tgs.ftag (x, y) = fx at HF HP HPY HPN
  obtain ⟨ux, uy, ok, hok⟩ : ∃ ux uy ok, Tgs.ptag fx = ((ux, uy), ok) := ⟨_, _, _, rfl⟩
  rw [hok] at HP HPY HPN
  dsimp only at HP
  clear b1 hy hfl hok
  go_wp2_with (fail)
  go_at_call 7
  refine (HF.out _).mono ?_
  rintro e w2 ⟨rfl, b2⟩
  have HT2 := Lib.hid (bx_below HT1.out b2)
  have B2 := Lib.hid (Base.then_below B1.out b2)
  clear b2 HT1 B1 HF
  go_wp2_with (fail)
  go_at_call 6
  refine (HP.out _).mono ?_
  rintro e w3 ⟨rfl, b3⟩
  have HU3 := Lib.hid (bx_new w3 ux uy 25)
  have HB3 := Lib.hid (Base.then_below B2.out b3)
  have B3 := Lib.hid (HB3.out.alloc HB3.out.size (.cells #[.bool ux, .string ⟨uy.toArray⟩] 25))
  have HT3 := Lib.hid (bx_below (bx_below HT2.out b3) ((Below.refl _ _).alloc (Nat.le_refl _) (.cells #[.bool ux, .string ⟨uy.toArray⟩] 25)))
  clear b3 HT2 B2 HP HB3
  go_wp2_with (fail)
  go_at_call 8
  refine (Cur.draw_two _ _ _ (Cur.bytes_below HBY.out B3.out) B3.out.size).mono ?_
  rintro e w4 ⟨ax, ay, bx, by', ha, hb, rfl, b4⟩
  have HT4 := Lib.hid (bx_below HT3.out b4)
  have HU4 := Lib.hid (bx_below HU3.out b4)
  have HB4 := Lib.hid (Base.then_below B3.out b4)
  clear b4 HT3 HU3 B3 ha hb
  have HA4 := Lib.hid (bx_below (bx_new w4 ax ay 25) ((Below.refl _ _).alloc (Nat.le_refl _) (.cells #[.bool bx, .string ⟨by'.toArray⟩] 25)))
  have hbn := bx_new (w4.alloc (.cells #[.bool ax, .string ⟨ay.toArray⟩] 25)) bx by' 25
  rw [show (w4.alloc (.cells #[.bool ax, .string ⟨ay.toArray⟩] 25)).heap.size = w4.heap.size + 1 by simp] at hbn
  have HN4 := Lib.hid hbn
  have hb44 : Below w4.heap.size w4 ((w4.alloc (.cells #[.bool ax, .string ⟨ay.toArray⟩] 25)).alloc (.cells #[.bool bx, .string ⟨by'.toArray⟩] 25)) := ((Below.refl _ _).alloc (Nat.le_refl _) _).alloc (by simp) _
  have HT5 := Lib.hid (bx_below HT4.out hb44)
  have HU5 := Lib.hid (bx_below HU4.out hb44)
  have HB5 := Lib.hid (HB4.out.trans (hb44.mono HB4.out.size))
  clear hbn hb44 HT4 HU4 HB4
  go_wp2_with (fail)
  go_at_call 10
  refine (Cur.draw_lst _ _ _ (Cur.bytes_below HBY.out HB5.out) HB5.out.size).mono ?_
  rintro e w6 ⟨s, hs, rfl, b6⟩
  have HT6 := Lib.hid (bx_below HT5.out b6)
  have HU6 := Lib.hid (bx_below HU5.out b6)
  have HA6 := Lib.hid (bx_below HA4.out b6)
  have HN6 := Lib.hid (bx_below HN4.out b6)
  have HB6 := Lib.hid (Base.then_below HB5.out b6)
  have HL := Lib.hid (Tgs.impl_lst s w6 (by omega))
  have HOK := Lib.hid (fun f hf => Tgs.ptl_ok s f hf)
  have HAN := Lib.hid (Tgs.ptl_any s)
  have HLN := Lib.hid (Tgs.ptl_len s)
  unfold Tgs.LstEnd at HL
  generalize Tgs.ptl s = r at HL HOK HAN HLN
  obtain ⟨ls, any, fine⟩ := r
  dsimp only at HL HOK HAN HLN
  clear b6 hs HT5 HU5 HA4 HN4 HB5
  go_wp2_with (fail)
  go_at_call 9
  refine HL.out.mono ?_
  rintro e w7 ⟨v, rfl, ho, b7⟩
  have HT7 := Lib.hid (bx_below HT6.out b7)
  have HU7 := Lib.hid (bx_below HU6.out b7)
  have HA7 := Lib.hid (bx_below HA6.out b7)
  have HN7 := Lib.hid (bx_below HN6.out b7)
  have HB7 := Lib.hid (Base.then_below HB6.out b7)
  obtain ⟨al, cl, rfl, hal⟩ := shape_t (Tgs.own_holds ho)
  have HAL := Lib.hid hal
  clear b7 ho hal HT6 HU6 HA6 HN6 HB6 HL
  go_wp2
  go_loopw [11] (fun i wr => ∃ k : Nat, k ≤ ls.length ∧ i = .int .i64 (k : Int) ∧ Hid (Below w7.heap.size w7 wr)) (fun i _ => ls.length - (intOf i).toNat)
  case atStart => exact ⟨0, Nat.zero_le _, rfl, Lib.hid (Below.refl _ _)⟩
  case round =>
    obtain ⟨k, hk, rfl, HG⟩ := hrel
    have hln : ls.length ≤ 8 := HLN.out
    by_cases hlt : k < ls.length
    · obtain ⟨b, off, rfl, hbl, hat⟩ := HAL.out (by omega)
      obtain ⟨c0, c1⟩ := Tgs.at_cells (Tgs.at_below hat HG.out hbl) hlt
      have hq := HOK.out _ (Rec.getD_mem (z := Tgs.nov) hlt)
      generalize ls.getD k Tgs.nov = f at c0 c1 hq
      obtain ⟨fx', fy⟩ := f
      dsimp only at c0 c1 hq
      have HI := Lib.hid (fun W => Tgs.impl_is fx' fy W (by have := Tgs.okt_len hq; omega))
      rw [hq] at HI
      unfold Tgs.BoolEnd at HI
      have hki : (k : Int) < (ls.length : Int) := by omega
      clear hq hat
      go_wp2_with (fail)
      go_at_call 11
      refine (HI.out _).mono ?_
      rintro e w8 ⟨rfl, b8⟩
      have HG8 := Lib.hid (HG.out.trans (b8.mono HG.out.size))
      clear b8 c0 c1 HI
      go_wp2
      go_roundw
      case rel => exact ⟨k + 1, by omega, by go_num, HG8⟩
      case measure => simp [intOf]; omega
    · have HTr := Lib.hid (bx_below HT7.out HG.out)
      have HUr := Lib.hid (bx_below HU7.out HG.out)
      have HAr := Lib.hid (bx_below HA7.out HG.out)
      have HNr := Lib.hid (bx_below HN7.out HG.out)
      have HBr := Lib.hid (Base.then_below HB7.out HG.out)
      have HSI := Lib.hid (fun W => Tgs.spec_is x y W (by have := HYL.out; omega))
      have HSS := Lib.hid (fun W => Tgs.impl_strong ax ay bx by' W)
      have HSW := Lib.hid (fun W => Tgs.impl_weak ax ay bx by' W)
      have HWK := Lib.hid (fun h => Tgs.strong_weak (ax, ay) (bx, by') h)
      unfold Tgs.BoolEnd at HSI HSS HSW
      obtain ⟨t0, t1⟩ := HTr.out
      clear HT7 HU7 HA7 HN7 HB7 HAL HOK HG HYL
      cases hy : Tgs.okt y with
      | true =>
        obtain ⟨⟨rfl, rfl⟩, rfl⟩ : (x = ux ∧ y = uy) ∧ true = ok := by have h := HPY.out hy; simp at h; obtain ⟨⟨h1, h2⟩, h3⟩ := h; exact ⟨⟨h1.symm, h2.symm⟩, h3.symm⟩
        rw [hy] at HSI
        clear HPY HPN hy
        go_wp2_with (fail)
        go_at_call 12
        refine (HSI.out _).mono ?_
        rintro e v1 ⟨rfl, d1⟩
        obtain ⟨t0, t1⟩ := bx_below HTr.out d1
        obtain ⟨u0, u1⟩ := bx_below HUr.out d1
        obtain ⟨a0, a1⟩ := bx_below HAr.out d1
        obtain ⟨n0, n1⟩ := bx_below HNr.out d1
        have HA1 := Lib.hid (bx_below HAr.out d1)
        have HN1 := Lib.hid (bx_below HNr.out d1)
        have HB1 := Lib.hid (Base.then_below HBr.out d1)
        clear d1 HTr HUr HAr HNr HBr HSI
        cases hst : Tgs.samestrong (ax, ay) (bx, by') with
        | false =>
          rw [hst] at HSS
          clear hst HWK HSW
          go_wp2_with (fail)
          go_at_call 13
          refine (HSS.out _).mono ?_
          rintro e v2 ⟨rfl, d2⟩
          have HB2 := Lib.hid (Base.then_below HB1.out d2)
          clear d2 t0 t1 u0 u1 a0 a1 n0 n1 HA1 HN1 HB1 HSS
          cases any with
          | true =>
            obtain ⟨rfl, hl0⟩ := HAN.out.1 rfl
            have hl1 : ((ls.length : Int) == 0) = true := by rw [hl0]; rfl
            go_wp2
            go_ret
            exact ⟨rfl, HB2.out⟩
          | false =>
            cases fine with
            | true =>
              go_wp2
              go_ret
              exact ⟨rfl, HB2.out⟩
            | false =>
              have hl0 := HAN.out.2 rfl
              have hl1 : ((ls.length : Int) == 0) = true := by rw [hl0]; rfl
              go_wp2
              go_ret
              exact ⟨rfl, HB2.out⟩
        | true =>
          have hwk := HWK.out hst
          rw [hst] at HSS
          rw [hwk] at HSW
          clear hst hwk HWK
          go_wp2_with (fail)
          go_at_call 13
          refine (HSS.out _).mono ?_
          rintro e v2 ⟨rfl, d2⟩
          have HB2 := Lib.hid (Base.then_below HB1.out d2)
          clear t0 t1 u0 u1 a0 a1 n0 n1
          obtain ⟨a0, a1⟩ := bx_below HA1.out d2
          obtain ⟨n0, n1⟩ := bx_below HN1.out d2
          clear d2 HA1 HN1 HB1 HSS
          go_wp2_with (fail)
          go_at_call 14
          refine (HSW.out _).mono ?_
          rintro e v3 ⟨rfl, d3⟩
          have HB3 := Lib.hid (Base.then_below HB2.out d3)
          clear d3 a0 a1 n0 n1 HB2 HSW
          cases any with
          | true =>
            obtain ⟨rfl, hl0⟩ := HAN.out.1 rfl
            have hl1 : ((ls.length : Int) == 0) = true := by rw [hl0]; rfl
            go_wp2
            go_ret
            exact ⟨rfl, HB3.out⟩
          | false =>
            cases fine with
            | true =>
              go_wp2
              go_ret
              exact ⟨rfl, HB3.out⟩
            | false =>
              have hl0 := HAN.out.2 rfl
              have hl1 : ((ls.length : Int) == 0) = true := by rw [hl0]; rfl
              go_wp2
              go_ret
              exact ⟨rfl, HB3.out⟩
      | false =>
        obtain ⟨⟨rfl, rfl⟩, rfl⟩ : (false = ux ∧ [] = uy) ∧ false = ok := by have h := HPN.out hy; simp at h; obtain ⟨⟨h1, h2⟩, h3⟩ := h; exact ⟨⟨h1.symm, h2.symm⟩, h3.symm⟩
        rw [hy] at HSI
        clear HPY HPN hy
        go_wp2_with (fail)
        go_at_call 12
        refine (HSI.out _).mono ?_
        rintro e v1 ⟨rfl, d1⟩
        obtain ⟨t0, t1⟩ := bx_below HTr.out d1
        obtain ⟨u0, u1⟩ := bx_below HUr.out d1
        obtain ⟨a0, a1⟩ := bx_below HAr.out d1
        obtain ⟨n0, n1⟩ := bx_below HNr.out d1
        have HA1 := Lib.hid (bx_below HAr.out d1)
        have HN1 := Lib.hid (bx_below HNr.out d1)
        have HB1 := Lib.hid (Base.then_below HBr.out d1)
        clear d1 HTr HUr HAr HNr HBr HSI
        cases hst : Tgs.samestrong (ax, ay) (bx, by') with
        | false =>
          rw [hst] at HSS
          clear hst HWK HSW
          go_wp2_with (fail)
          go_at_call 13
          refine (HSS.out _).mono ?_
          rintro e v2 ⟨rfl, d2⟩
          have HB2 := Lib.hid (Base.then_below HB1.out d2)
          clear d2 t0 t1 u0 u1 a0 a1 n0 n1 HA1 HN1 HB1 HSS
          cases any with
          | true =>
            obtain ⟨rfl, hl0⟩ := HAN.out.1 rfl
            have hl1 : ((ls.length : Int) == 0) = true := by rw [hl0]; rfl
            go_wp2
            go_ret
            exact ⟨rfl, HB2.out⟩
          | false =>
            cases fine with
            | true =>
              go_wp2
              go_ret
              exact ⟨rfl, HB2.out⟩
            | false =>
              have hl0 := HAN.out.2 rfl
              have hl1 : ((ls.length : Int) == 0) = true := by rw [hl0]; rfl
              go_wp2
              go_ret
              exact ⟨rfl, HB2.out⟩
        | true =>
          have hwk := HWK.out hst
          rw [hst] at HSS
          rw [hwk] at HSW
          clear hst hwk HWK
          go_wp2_with (fail)
          go_at_call 13
          refine (HSS.out _).mono ?_
          rintro e v2 ⟨rfl, d2⟩
          have HB2 := Lib.hid (Base.then_below HB1.out d2)
          clear t0 t1 u0 u1 a0 a1 n0 n1
          obtain ⟨a0, a1⟩ := bx_below HA1.out d2
          obtain ⟨n0, n1⟩ := bx_below HN1.out d2
          clear d2 HA1 HN1 HB1 HSS
          go_wp2_with (fail)
          go_at_call 14
          refine (HSW.out _).mono ?_
          rintro e v3 ⟨rfl, d3⟩
          have HB3 := Lib.hid (Base.then_below HB2.out d3)
          clear d3 a0 a1 n0 n1 HB2 HSW
          cases any with
          | true =>
            obtain ⟨rfl, hl0⟩ := HAN.out.1 rfl
            have hl1 : ((ls.length : Int) == 0) = true := by rw [hl0]; rfl
            go_wp2
            go_ret
            exact ⟨rfl, HB3.out⟩
          | false =>
            cases fine with
            | true =>
              go_wp2
              go_ret
              exact ⟨rfl, HB3.out⟩
            | false =>
              have hl0 := HAN.out.2 rfl
              have hl1 : ((ls.length : Int) == 0) = true := by rw [hl0]; rfl
              go_wp2
              go_ret
              exact ⟨rfl, HB3.out⟩
end Go.Proofs.YtbbpepghkhfcbaaDoor.fnTags
