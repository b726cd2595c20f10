/-
  CONTRACTS AND PLAIN FACTS, several texts in one; each says in its own words what it proves.
-/
import Derived.Test.YtfkejnbkglaokaaGreatDoorPartD
import Derived.Test.YtfkejnbkglaokaaGreatDoorPartO
import Derived.Test.YtfkejnbkglaokaaGreatDoorPartP
set_option linter.unusedSimpArgs false
set_option linter.unusedVariables false

/-
  THE WALK of the law of chapter 11.
-/
namespace Go.Proofs.YtfkejnbkglaokaaGreatDoor.fnMessages
open Go Go.RowKit
set_option linter.unusedVariables false
set_option maxRecDepth 1000000
set_option maxRecDepth 1000000

theorem fq (m h t x : List UInt8) (v : Value) (B : Nat) (l : List Flds.Fld) (w : World) (hh : Flds.Holds w B v l) (hB : B ≤ w.heap.size) (hl : Flds.total l ≤ 1048576) (hm : m.length ≤ 1048576) (hhl : h.length ≤ 1048576) (ht : t.length ≤ 1048576) (hx : Msg.fmtReq m h t l = x) :
    Calls Tryz.prog 18 #[.agg #[.string ⟨m.toArray⟩, .string ⟨h.toArray⟩, .string ⟨t.toArray⟩, v]] w fun e w' => e = .returned (.string ⟨x.toArray⟩) ∧ Below w.heap.size w w' := by subst hx; exact Msg.impl_fmtq m h t v B l w hh hB hl hm hhl ht
theorem fr (c : Int) (v : Value) (B : Nat) (l : List Flds.Fld) (b x : List UInt8) (w : World) (h : Flds.Holds w B v l) (hB : B ≤ w.heap.size) (hl : Flds.total l ≤ 1048576) (hbl : b.length ≤ 1048576) (ht : Fmt.Tens w) (hx : Msg.fmtRsp c l b = x) :
    Calls Tryz.prog 20 #[.agg #[.int .i64 c, v, .string ⟨b.toArray⟩]] w fun e w' => e = .returned (.string ⟨x.toArray⟩) ∧ Below w.heap.size w w' := by subst hx; exact Msg.impl_fmtr c v B l b w h hB hl hbl ht
theorem isq (m h t : List UInt8) (v : Value) (B : Nat) (l : List Flds.Fld) (z : Bool) (w : World) (hh : Flds.Holds w B v l) (hB : B ≤ w.heap.size) (hl : Flds.total l ≤ 1048576) (hm : m.length ≤ 1048576) (hhl : h.length ≤ 1048576) (ht : t.length ≤ 1048576) (hz : Msg.reqOk m h t l = z) :
    Calls Tryz.prog 21 #[.agg #[.string ⟨m.toArray⟩, .string ⟨h.toArray⟩, .string ⟨t.toArray⟩, v]] w fun e w' => e = .returned (.bool z) ∧ Below w.heap.size w w' := by subst hz; exact Msg.spec_isq m h t v B l w hh hB hl hm hhl ht
theorem isr (c : Int) (v : Value) (B : Nat) (l : List Flds.Fld) (b : List UInt8) (z : Bool) (w : World) (h : Flds.Holds w B v l) (hB : B ≤ w.heap.size) (hl : Flds.total l ≤ 1048576) (hbl : b.length ≤ 1048576) (hz : Msg.rspOk c l b = z) :
    Calls Tryz.prog 22 #[.agg #[.int .i64 c, v, .string ⟨b.toArray⟩]] w fun e w' => e = .returned (.bool z) ∧ Below w.heap.size w w' := by subst hz; exact Msg.spec_isr c v B l b w h hB hl hbl
theorem same_yes (v v' : Value) (B B' : Nat) (l : List Flds.Fld) (w : World) (h : Flds.Holds w B v l) (h' : Flds.Holds w B' v' l) (h1 : l.length ≤ 1048576) :
    Calls Tryz.prog 23 #[v, v'] w (fun e w' => e = .returned (.bool true) ∧ Below w.heap.size w w') := by
  refine (Flds.impl_same v v' B B' l l w h h' h1 h1).mono ?_
  rintro e w' ⟨he, hb⟩
  rw [decide_eq_true rfl] at he
  exact ⟨he, hb⟩
theorem srsp_yes (c : Int) (v1 v2 : Value) (l : List Flds.Fld) (b : List UInt8) (B1 B2 : Nat) (w : World) (h1 : Flds.Holds w B1 v1 l) (h2 : Flds.Holds w B2 v2 l) (hB1 : B1 ≤ w.heap.size) (hB2 : B2 ≤ w.heap.size) (hl : l.length ≤ 1048576) :
    Calls Tryz.prog 24 #[.agg #[.int .i64 c, v1, .string ⟨b.toArray⟩], .agg #[.int .i64 c, v2, .string ⟨b.toArray⟩]] w (fun e w' => e = .returned (.bool true) ∧ Below w.heap.size w w') := by
  refine (Msg.impl_same_rsp c v1 l b c v2 l b B1 B2 w h1 h2 hB1 hB2 hl hl).mono ?_
  rintro e w' ⟨he, hb⟩
  refine ⟨?_, hb⟩
  rw [he]; unfold Msg.rspSame; simp

set_option maxHeartbeats 16000000 in
theorem walk (b0 : Option Addr) (l0 c0 : Nat) (w0 : l0 ≤ maxLen) (w : World) (y0 : l0 ≤ 1048576 → Cur.Bytes w w.heap.size (.slice b0 l0 c0)) (her : Par.Errs w) (hmx : Sh.MxL w) (htn : Fmt.Tens w) :
    Calls Tryz.prog 5 #[.slice b0 l0 c0] w fun e w' => e = .returned (.bool true) ∧ Below w.heap.size w w' := by
  clear w0
  by_cases hbig : 1048576 < (l0 : Int)
  · go_enter Tryz.func5, Tryz.ntmps5
    go_wp2_with (go_at_call 16; refine (Cur.big_yes _ _ _ _ hbig).mono ?_; rintro e w' ⟨rfl, rfl⟩)
    go_ret
    exact ⟨rfl, Below.refl _ _⟩
  have HBY := Lib.hid (y0 (by omega))
  have HER := Lib.hid (fun W (hb : Below w.heap.size w W) => And.intro (Par.errs_below her hb) (And.intro (Sh.mxl_below hmx hb) (Fmt.tens_below htn hb)))
  clear y0 her hmx htn
  go_enter Tryz.func5, Tryz.ntmps5
  go_wp2_with (fail)
  go_at_call 16
  refine (Cur.big_no _ _ _ _ (by omega)).mono ?_
  rintro e w' ⟨rfl, rfl⟩
  go_wp2_with (fail)
  go_at_call 17
  refine (Cur.draw_fq _ _ _ HBY.out (Nat.le_refl _)).mono ?_
  rintro e w1 ⟨m, h, t, v, l, rfl, ⟨hm, hh, ht, hfw⟩, of, d1⟩
  have hft := Cur.few_total hfw
  have hll : l.length ≤ 125 := by unfold Flds.total at hft; omega
  obtain ⟨av, cv, rfl, _⟩ := Rec.shape_at of
  have da := (Below.refl w1.heap.size w1).alloc (Nat.le_refl _) (.cells #[.string ⟨m.toArray⟩, .string ⟨h.toArray⟩, .string ⟨t.toArray⟩, .slice av l.length cv] 24)
  have BW := Lib.hid (Base.then_below d1 da)
  have HF := Lib.hid (Flds.holds_more (Flds.holds_below (Flds.own_holds of) da) da.size)
  have HX := Lib.hid (Msg.hb_new w1 #[.string ⟨m.toArray⟩, .string ⟨h.toArray⟩, .string ⟨t.toArray⟩, .slice av l.length cv] 24)
  obtain ⟨⟨s0, s1, s2, s3⟩, _⟩ := Msg.z4 HX.out
  clear d1 da of hfw
  cases hr1 : Msg.reqOk m h t l with
  | true =>
    have hf1 : Msg.fmtReq m h t l = Msg.reqTxt m h t l := by unfold Msg.fmtReq; rw [hr1]; rfl
    have H2 := Lib.hid (fq m h t _ _ _ l _ HF.out (Nat.le_refl _) (by omega) (by omega) (by omega) (by omega) hf1)
    have H3 := Lib.hid (fun W (hw : Below w.heap.size w W) => Msg.preq_txt m h t l W hr1 (by omega) (by omega) (by omega) (by omega) (HER.out _ hw).2.1)
    generalize Msg.reqTxt m h t l = tq at H2 H3
    clear hf1
    go_wp2_with (fail)
    go_at_call 18
    refine H2.out.mono ?_
    rintro e w2 ⟨rfl, d2⟩
    have HXn := Lib.hid (Msg.hb_at HX.out d2)
    have HFn := Lib.hid (Flds.holds_more (Flds.holds_below HF.out d2) (Below.size d2))
    clear HX HF
    have HX := HXn
    clear HXn
    have HF := HFn
    clear HFn
    have BW' := Lib.hid (Base.then_below BW.out d2)
    clear BW
    have BW := BW'
    clear BW'
    clear d2 H2 s0 s1 s2 s3
    have H3' := Lib.hid (H3.out _ BW.out)
    clear H3
    go_wp2_with (fail)
    go_at_call 7
    refine H3'.out.mono ?_
    rintro e w3 ⟨aq, cq, rfl, hqf, d3⟩
    have da := (Below.refl w3.heap.size w3).alloc (Nat.le_refl _) (.cells #[.string ⟨m.toArray⟩, .string ⟨h.toArray⟩, .string ⟨t.toArray⟩, .slice aq l.length cq] 24)
    have dd := Base.then_below d3 da
    have HQF := Lib.hid (Flds.holds_more (Flds.holds_below hqf da) da.size)
    have HQ := Lib.hid (Msg.hb_new w3 #[.string ⟨m.toArray⟩, .string ⟨h.toArray⟩, .string ⟨t.toArray⟩, .slice aq l.length cq] 24)
    have HXn := Lib.hid (Msg.hb_at HX.out dd)
    have HFn := Lib.hid (Flds.holds_more (Flds.holds_below HF.out dd) (Below.size dd))
    clear HX HF
    have HX := HXn
    clear HXn
    have HF := HFn
    clear HFn
    have BW' := Lib.hid (Base.then_below BW.out dd)
    clear BW
    have BW := BW'
    clear BW'
    clear d3 da dd hqf H3'
    go_wp2_with (fail)
    go_at_call 19
    refine (Cur.draw_fr _ _ _ (Cur.bytes_below HBY.out BW.out) BW.out.size).mono ?_
    rintro e w4 ⟨c, vx, lx, b, rfl, ⟨hc0, hc1, hfx, hbl⟩, ox, d4⟩
    have hxt := Cur.few6_total hfx
    obtain ⟨ax, cx, rfl, _⟩ := Rec.shape_at ox
    have da := (Below.refl w4.heap.size w4).alloc (Nat.le_refl _) (.cells #[.int .i64 c, .slice ax lx.length cx, .string ⟨b.toArray⟩] 31)
    have dd := Base.then_below d4 da
    have HXF := Lib.hid (Flds.holds_more (Flds.holds_below (Flds.own_holds ox) da) da.size)
    have HR := Lib.hid (Msg.hb_new w4 #[.int .i64 c, .slice ax lx.length cx, .string ⟨b.toArray⟩] 31)
    have HXn := Lib.hid (Msg.hb_at HX.out dd)
    have HQn := Lib.hid (Msg.hb_at HQ.out dd)
    have HFn := Lib.hid (Flds.holds_more (Flds.holds_below HF.out dd) (Below.size dd))
    have HQFn := Lib.hid (Flds.holds_more (Flds.holds_below HQF.out dd) (Below.size dd))
    clear HX HQ HF HQF
    have HX := HXn
    clear HXn
    have HQ := HQn
    clear HQn
    have HF := HFn
    clear HFn
    have HQF := HQFn
    clear HQFn
    have BW' := Lib.hid (Base.then_below BW.out dd)
    clear BW
    have BW := BW'
    clear BW'
    clear d4 da dd ox hfx
    have hxl : lx.length ≤ 150 := by unfold Flds.total at hxt; omega
    obtain ⟨⟨p0, p1, p2⟩, _⟩ := Msg.z3 HR.out
    cases hr2 : Msg.rspOk c lx b with
    | true =>
      have hf2 : Msg.fmtRsp c lx b = Msg.rspTxt c lx b := by unfold Msg.fmtRsp; rw [hr2]; rfl
      have H5 := Lib.hid (fr c _ _ lx b _ _ HXF.out (Nat.le_refl _) (by omega) (by omega) (HER.out _ BW.out).2.2 hf2)
      have H6 := Lib.hid (fun W (hw : Below w.heap.size w W) => Msg.prsp_txt c lx b W hr2 (by omega) (by omega) (HER.out _ hw).2.1 (HER.out _ hw).2.2 (HER.out _ hw).1)
      generalize Msg.rspTxt c lx b = tx at H5 H6
      clear hf2
      go_wp2_with (fail)
      go_at_call 20
      refine H5.out.mono ?_
      rintro e w5 ⟨rfl, d5⟩
      have HXn := Lib.hid (Msg.hb_at HX.out d5)
      have HQn := Lib.hid (Msg.hb_at HQ.out d5)
      have HFn := Lib.hid (Flds.holds_more (Flds.holds_below HF.out d5) (Below.size d5))
      have HQFn := Lib.hid (Flds.holds_more (Flds.holds_below HQF.out d5) (Below.size d5))
      have HXFn := Lib.hid (Flds.holds_more (Flds.holds_below HXF.out d5) (Below.size d5))
      have HRn := Lib.hid (Msg.hb_at HR.out d5)
      clear HX HQ HF HQF HXF HR
      have HX := HXn
      clear HXn
      have HQ := HQn
      clear HQn
      have HF := HFn
      clear HFn
      have HQF := HQFn
      clear HQFn
      have HXF := HXFn
      clear HXFn
      have HR := HRn
      clear HRn
      have BW' := Lib.hid (Base.then_below BW.out d5)
      clear BW
      have BW := BW'
      clear BW'
      clear d5 H5 p0 p1 p2
      have H6' := Lib.hid (H6.out _ BW.out)
      clear H6
      go_wp2_with (fail)
      go_at_call 12
      refine H6'.out.mono ?_
      rintro e w6 ⟨ay, cy, rfl, hyf, d6⟩
      have da := (Below.refl w6.heap.size w6).alloc (Nat.le_refl _) (.cells #[.int .i64 c, .slice ay lx.length cy, .string ⟨b.toArray⟩] 31)
      have dd := Base.then_below d6 da
      have HYF := Lib.hid (Flds.holds_more (Flds.holds_below hyf da) da.size)
      have HY := Lib.hid (Msg.hb_new w6 #[.int .i64 c, .slice ay lx.length cy, .string ⟨b.toArray⟩] 31)
      have HXn := Lib.hid (Msg.hb_at HX.out dd)
      have HQn := Lib.hid (Msg.hb_at HQ.out dd)
      have HFn := Lib.hid (Flds.holds_more (Flds.holds_below HF.out dd) (Below.size dd))
      have HQFn := Lib.hid (Flds.holds_more (Flds.holds_below HQF.out dd) (Below.size dd))
      have HXFn := Lib.hid (Flds.holds_more (Flds.holds_below HXF.out dd) (Below.size dd))
      have HRn := Lib.hid (Msg.hb_at HR.out dd)
      clear HX HQ HF HQF HXF HR
      have HX := HXn
      clear HXn
      have HQ := HQn
      clear HQn
      have HF := HFn
      clear HFn
      have HQF := HQFn
      clear HQFn
      have HXF := HXFn
      clear HXFn
      have HR := HRn
      clear HRn
      have BW' := Lib.hid (Base.then_below BW.out dd)
      clear BW
      have BW := BW'
      clear BW'
      clear d6 da dd hyf H6'
      have HI1 := Lib.hid (isq m h t _ _ l true _ HF.out (Nat.le_refl _) (by omega) (by omega) (by omega) (by omega) hr1)
      obtain ⟨⟨s0, s1, s2, s3⟩, _⟩ := Msg.z4 HX.out
      go_wp2_with (fail)
      go_at_call 21
      refine HI1.out.mono ?_
      rintro e w7 ⟨rfl, d7⟩
      clear s0 s1 s2 s3
      have HXn := Lib.hid (Msg.hb_at HX.out d7)
      have HQn := Lib.hid (Msg.hb_at HQ.out d7)
      have HFn := Lib.hid (Flds.holds_more (Flds.holds_below HF.out d7) (Below.size d7))
      have HQFn := Lib.hid (Flds.holds_more (Flds.holds_below HQF.out d7) (Below.size d7))
      have HXFn := Lib.hid (Flds.holds_more (Flds.holds_below HXF.out d7) (Below.size d7))
      have HRn := Lib.hid (Msg.hb_at HR.out d7)
      have HYFn := Lib.hid (Flds.holds_more (Flds.holds_below HYF.out d7) (Below.size d7))
      have HYn := Lib.hid (Msg.hb_at HY.out d7)
      clear HX HQ HF HQF HXF HR HYF HY
      have HX := HXn
      clear HXn
      have HQ := HQn
      clear HQn
      have HF := HFn
      clear HFn
      have HQF := HQFn
      clear HQFn
      have HXF := HXFn
      clear HXFn
      have HR := HRn
      clear HRn
      have HYF := HYFn
      clear HYFn
      have HY := HYn
      clear HYn
      have BW' := Lib.hid (Base.then_below BW.out d7)
      clear BW
      have BW := BW'
      clear BW'
      clear d7 HI1
      have HI2 := Lib.hid (isr c _ _ lx b true _ HXF.out (Nat.le_refl _) (by omega) (by omega) hr2)
      obtain ⟨⟨p0, p1, p2⟩, _⟩ := Msg.z3 HR.out
      go_wp2_with (fail)
      go_at_call 22
      refine HI2.out.mono ?_
      rintro e w8 ⟨rfl, d8⟩
      clear p0 p1 p2
      have HXn := Lib.hid (Msg.hb_at HX.out d8)
      have HQn := Lib.hid (Msg.hb_at HQ.out d8)
      have HFn := Lib.hid (Flds.holds_more (Flds.holds_below HF.out d8) (Below.size d8))
      have HQFn := Lib.hid (Flds.holds_more (Flds.holds_below HQF.out d8) (Below.size d8))
      have HXFn := Lib.hid (Flds.holds_more (Flds.holds_below HXF.out d8) (Below.size d8))
      have HRn := Lib.hid (Msg.hb_at HR.out d8)
      have HYFn := Lib.hid (Flds.holds_more (Flds.holds_below HYF.out d8) (Below.size d8))
      have HYn := Lib.hid (Msg.hb_at HY.out d8)
      clear HX HQ HF HQF HXF HR HYF HY
      have HX := HXn
      clear HXn
      have HQ := HQn
      clear HQn
      have HF := HFn
      clear HFn
      have HQF := HQFn
      clear HQFn
      have HXF := HXFn
      clear HXFn
      have HR := HRn
      clear HRn
      have HYF := HYFn
      clear HYFn
      have HY := HYn
      clear HYn
      have BW' := Lib.hid (Base.then_below BW.out d8)
      clear BW
      have BW := BW'
      clear BW'
      clear d8 HI2
      obtain ⟨⟨s0, s1, s2, s3⟩, _⟩ := Msg.z4 HX.out
      obtain ⟨⟨q0, q1, q2, q3⟩, _⟩ := Msg.z4 HQ.out
      have HSF := Lib.hid (same_yes _ _ _ _ l _ HQF.out HF.out (by omega))
      go_wp2_with (fail)
      go_at_call 23
      refine HSF.out.mono ?_
      rintro e w9 ⟨rfl, d9⟩
      clear s0 s1 s2 s3 q0 q1 q2 q3
      have HXn := Lib.hid (Msg.hb_at HX.out d9)
      have HQn := Lib.hid (Msg.hb_at HQ.out d9)
      have HFn := Lib.hid (Flds.holds_more (Flds.holds_below HF.out d9) (Below.size d9))
      have HQFn := Lib.hid (Flds.holds_more (Flds.holds_below HQF.out d9) (Below.size d9))
      have HXFn := Lib.hid (Flds.holds_more (Flds.holds_below HXF.out d9) (Below.size d9))
      have HRn := Lib.hid (Msg.hb_at HR.out d9)
      have HYFn := Lib.hid (Flds.holds_more (Flds.holds_below HYF.out d9) (Below.size d9))
      have HYn := Lib.hid (Msg.hb_at HY.out d9)
      clear HX HQ HF HQF HXF HR HYF HY
      have HX := HXn
      clear HXn
      have HQ := HQn
      clear HQn
      have HF := HFn
      clear HFn
      have HQF := HQFn
      clear HQFn
      have HXF := HXFn
      clear HXFn
      have HR := HRn
      clear HRn
      have HYF := HYFn
      clear HYFn
      have HY := HYn
      clear HYn
      have BW' := Lib.hid (Base.then_below BW.out d9)
      clear BW
      have BW := BW'
      clear BW'
      clear d9 HSF
      obtain ⟨⟨p0, p1, p2⟩, _⟩ := Msg.z3 HR.out
      obtain ⟨⟨r0, r1, r2⟩, _⟩ := Msg.z3 HY.out
      have HSR := Lib.hid (srsp_yes c _ _ lx b _ _ _ HXF.out HYF.out (Nat.le_refl _) (Nat.le_refl _) (by omega))
      go_wp2_with (fail)
      go_at_call 24
      refine HSR.out.mono ?_
      rintro e wx ⟨rfl, dx⟩
      clear p0 p1 p2 r0 r1 r2
      have BW' := Lib.hid (Base.then_below BW.out dx)
      clear BW
      have BW := BW'
      clear BW'
      clear dx HSR
      go_wp2
      go_ret
      exact ⟨rfl, BW.out⟩
    | false =>
      have hf2 : Msg.fmtRsp c lx b = [] := by unfold Msg.fmtRsp; rw [hr2]; rfl
      have H5 := Lib.hid (fr c _ _ lx b _ _ HXF.out (Nat.le_refl _) (by omega) (by omega) (HER.out _ BW.out).2.2 hf2)
      have H6 := Lib.hid (fun W (hw : Below w.heap.size w W) => Msg.prsp_nil W (HER.out _ hw).2.1)
      clear hf2
      go_wp2_with (fail)
      go_at_call 20
      refine H5.out.mono ?_
      rintro e w5 ⟨rfl, d5⟩
      have HXn := Lib.hid (Msg.hb_at HX.out d5)
      have HQn := Lib.hid (Msg.hb_at HQ.out d5)
      have HFn := Lib.hid (Flds.holds_more (Flds.holds_below HF.out d5) (Below.size d5))
      have HQFn := Lib.hid (Flds.holds_more (Flds.holds_below HQF.out d5) (Below.size d5))
      have HXFn := Lib.hid (Flds.holds_more (Flds.holds_below HXF.out d5) (Below.size d5))
      have HRn := Lib.hid (Msg.hb_at HR.out d5)
      clear HX HQ HF HQF HXF HR
      have HX := HXn
      clear HXn
      have HQ := HQn
      clear HQn
      have HF := HFn
      clear HFn
      have HQF := HQFn
      clear HQFn
      have HXF := HXFn
      clear HXFn
      have HR := HRn
      clear HRn
      have BW' := Lib.hid (Base.then_below BW.out d5)
      clear BW
      have BW := BW'
      clear BW'
      clear d5 H5 p0 p1 p2
      have H6' := Lib.hid (H6.out _ BW.out)
      clear H6
      go_wp2_with (fail)
      go_at_call 12
      refine H6'.out.mono ?_
      rintro e w6 ⟨rfl, d6⟩
      have da := (Below.refl w6.heap.size w6).alloc (Nat.le_refl _) (.cells #[.int .i64 0, .slice none 0 0, .string ⟨#[]⟩] 31)
      have dd := Base.then_below d6 da
      have HXn := Lib.hid (Msg.hb_at HX.out dd)
      have HQn := Lib.hid (Msg.hb_at HQ.out dd)
      have HFn := Lib.hid (Flds.holds_more (Flds.holds_below HF.out dd) (Below.size dd))
      have HQFn := Lib.hid (Flds.holds_more (Flds.holds_below HQF.out dd) (Below.size dd))
      have HXFn := Lib.hid (Flds.holds_more (Flds.holds_below HXF.out dd) (Below.size dd))
      have HRn := Lib.hid (Msg.hb_at HR.out dd)
      clear HX HQ HF HQF HXF HR
      have HX := HXn
      clear HXn
      have HQ := HQn
      clear HQn
      have HF := HFn
      clear HFn
      have HQF := HQFn
      clear HQFn
      have HXF := HXFn
      clear HXFn
      have HR := HRn
      clear HRn
      have BW' := Lib.hid (Base.then_below BW.out dd)
      clear BW
      have BW := BW'
      clear BW'
      clear d6 da dd H6'
      have HI1 := Lib.hid (isq m h t _ _ l true _ HF.out (Nat.le_refl _) (by omega) (by omega) (by omega) (by omega) hr1)
      obtain ⟨⟨s0, s1, s2, s3⟩, _⟩ := Msg.z4 HX.out
      go_wp2_with (fail)
      go_at_call 21
      refine HI1.out.mono ?_
      rintro e w7 ⟨rfl, d7⟩
      clear s0 s1 s2 s3
      have HXn := Lib.hid (Msg.hb_at HX.out d7)
      have HQn := Lib.hid (Msg.hb_at HQ.out d7)
      have HFn := Lib.hid (Flds.holds_more (Flds.holds_below HF.out d7) (Below.size d7))
      have HQFn := Lib.hid (Flds.holds_more (Flds.holds_below HQF.out d7) (Below.size d7))
      have HXFn := Lib.hid (Flds.holds_more (Flds.holds_below HXF.out d7) (Below.size d7))
      have HRn := Lib.hid (Msg.hb_at HR.out d7)
      clear HX HQ HF HQF HXF HR
      have HX := HXn
      clear HXn
      have HQ := HQn
      clear HQn
      have HF := HFn
      clear HFn
      have HQF := HQFn
      clear HQFn
      have HXF := HXFn
      clear HXFn
      have HR := HRn
      clear HRn
      have BW' := Lib.hid (Base.then_below BW.out d7)
      clear BW
      have BW := BW'
      clear BW'
      clear d7 HI1
      have HI2 := Lib.hid (isr c _ _ lx b false _ HXF.out (Nat.le_refl _) (by omega) (by omega) hr2)
      obtain ⟨⟨p0, p1, p2⟩, _⟩ := Msg.z3 HR.out
      go_wp2_with (fail)
      go_at_call 22
      refine HI2.out.mono ?_
      rintro e w8 ⟨rfl, d8⟩
      clear p0 p1 p2
      have HXn := Lib.hid (Msg.hb_at HX.out d8)
      have HQn := Lib.hid (Msg.hb_at HQ.out d8)
      have HFn := Lib.hid (Flds.holds_more (Flds.holds_below HF.out d8) (Below.size d8))
      have HQFn := Lib.hid (Flds.holds_more (Flds.holds_below HQF.out d8) (Below.size d8))
      have HXFn := Lib.hid (Flds.holds_more (Flds.holds_below HXF.out d8) (Below.size d8))
      have HRn := Lib.hid (Msg.hb_at HR.out d8)
      clear HX HQ HF HQF HXF HR
      have HX := HXn
      clear HXn
      have HQ := HQn
      clear HQn
      have HF := HFn
      clear HFn
      have HQF := HQFn
      clear HQFn
      have HXF := HXFn
      clear HXFn
      have HR := HRn
      clear HRn
      have BW' := Lib.hid (Base.then_below BW.out d8)
      clear BW
      have BW := BW'
      clear BW'
      clear d8 HI2
      obtain ⟨⟨s0, s1, s2, s3⟩, _⟩ := Msg.z4 HX.out
      obtain ⟨⟨q0, q1, q2, q3⟩, _⟩ := Msg.z4 HQ.out
      have HSF := Lib.hid (same_yes _ _ _ _ l _ HQF.out HF.out (by omega))
      go_wp2_with (fail)
      go_at_call 23
      refine HSF.out.mono ?_
      rintro e w9 ⟨rfl, d9⟩
      clear s0 s1 s2 s3 q0 q1 q2 q3
      have HXn := Lib.hid (Msg.hb_at HX.out d9)
      have HQn := Lib.hid (Msg.hb_at HQ.out d9)
      have HFn := Lib.hid (Flds.holds_more (Flds.holds_below HF.out d9) (Below.size d9))
      have HQFn := Lib.hid (Flds.holds_more (Flds.holds_below HQF.out d9) (Below.size d9))
      have HXFn := Lib.hid (Flds.holds_more (Flds.holds_below HXF.out d9) (Below.size d9))
      have HRn := Lib.hid (Msg.hb_at HR.out d9)
      clear HX HQ HF HQF HXF HR
      have HX := HXn
      clear HXn
      have HQ := HQn
      clear HQn
      have HF := HFn
      clear HFn
      have HQF := HQFn
      clear HQFn
      have HXF := HXFn
      clear HXFn
      have HR := HRn
      clear HRn
      have BW' := Lib.hid (Base.then_below BW.out d9)
      clear BW
      have BW := BW'
      clear BW'
      clear d9 HSF
      go_wp2
      go_ret
      exact ⟨rfl, BW.out⟩
  | false =>
    have hf1 : Msg.fmtReq m h t l = [] := by unfold Msg.fmtReq; rw [hr1]; rfl
    have H2 := Lib.hid (fq m h t _ _ _ l _ HF.out (Nat.le_refl _) (by omega) (by omega) (by omega) (by omega) hf1)
    have H3 := Lib.hid (fun W (hw : Below w.heap.size w W) => Msg.preq_nil W (HER.out _ hw).2.1)
    clear hf1
    go_wp2_with (fail)
    go_at_call 18
    refine H2.out.mono ?_
    rintro e w2 ⟨rfl, d2⟩
    have HXn := Lib.hid (Msg.hb_at HX.out d2)
    have HFn := Lib.hid (Flds.holds_more (Flds.holds_below HF.out d2) (Below.size d2))
    clear HX HF
    have HX := HXn
    clear HXn
    have HF := HFn
    clear HFn
    have BW' := Lib.hid (Base.then_below BW.out d2)
    clear BW
    have BW := BW'
    clear BW'
    clear d2 H2 s0 s1 s2 s3
    have H3' := Lib.hid (H3.out _ BW.out)
    clear H3
    go_wp2_with (fail)
    go_at_call 7
    refine H3'.out.mono ?_
    rintro e w3 ⟨rfl, d3⟩
    have da := (Below.refl w3.heap.size w3).alloc (Nat.le_refl _) (.cells #[.string ⟨#[]⟩, .string ⟨#[]⟩, .string ⟨#[]⟩, .slice none 0 0] 24)
    have dd := Base.then_below d3 da
    have HQ := Lib.hid (Msg.hb_new w3 #[.string ⟨#[]⟩, .string ⟨#[]⟩, .string ⟨#[]⟩, .slice none 0 0] 24)
    have HXn := Lib.hid (Msg.hb_at HX.out dd)
    have HFn := Lib.hid (Flds.holds_more (Flds.holds_below HF.out dd) (Below.size dd))
    clear HX HF
    have HX := HXn
    clear HXn
    have HF := HFn
    clear HFn
    have BW' := Lib.hid (Base.then_below BW.out dd)
    clear BW
    have BW := BW'
    clear BW'
    clear d3 da dd H3'
    go_wp2_with (fail)
    go_at_call 19
    refine (Cur.draw_fr _ _ _ (Cur.bytes_below HBY.out BW.out) BW.out.size).mono ?_
    rintro e w4 ⟨c, vx, lx, b, rfl, ⟨hc0, hc1, hfx, hbl⟩, ox, d4⟩
    have hxt := Cur.few6_total hfx
    obtain ⟨ax, cx, rfl, _⟩ := Rec.shape_at ox
    have da := (Below.refl w4.heap.size w4).alloc (Nat.le_refl _) (.cells #[.int .i64 c, .slice ax lx.length cx, .string ⟨b.toArray⟩] 31)
    have dd := Base.then_below d4 da
    have HXF := Lib.hid (Flds.holds_more (Flds.holds_below (Flds.own_holds ox) da) da.size)
    have HR := Lib.hid (Msg.hb_new w4 #[.int .i64 c, .slice ax lx.length cx, .string ⟨b.toArray⟩] 31)
    have HXn := Lib.hid (Msg.hb_at HX.out dd)
    have HQn := Lib.hid (Msg.hb_at HQ.out dd)
    have HFn := Lib.hid (Flds.holds_more (Flds.holds_below HF.out dd) (Below.size dd))
    clear HX HQ HF
    have HX := HXn
    clear HXn
    have HQ := HQn
    clear HQn
    have HF := HFn
    clear HFn
    have BW' := Lib.hid (Base.then_below BW.out dd)
    clear BW
    have BW := BW'
    clear BW'
    clear d4 da dd ox hfx
    have hxl : lx.length ≤ 150 := by unfold Flds.total at hxt; omega
    obtain ⟨⟨p0, p1, p2⟩, _⟩ := Msg.z3 HR.out
    cases hr2 : Msg.rspOk c lx b with
    | true =>
      have hf2 : Msg.fmtRsp c lx b = Msg.rspTxt c lx b := by unfold Msg.fmtRsp; rw [hr2]; rfl
      have H5 := Lib.hid (fr c _ _ lx b _ _ HXF.out (Nat.le_refl _) (by omega) (by omega) (HER.out _ BW.out).2.2 hf2)
      have H6 := Lib.hid (fun W (hw : Below w.heap.size w W) => Msg.prsp_txt c lx b W hr2 (by omega) (by omega) (HER.out _ hw).2.1 (HER.out _ hw).2.2 (HER.out _ hw).1)
      generalize Msg.rspTxt c lx b = tx at H5 H6
      clear hf2
      go_wp2_with (fail)
      go_at_call 20
      refine H5.out.mono ?_
      rintro e w5 ⟨rfl, d5⟩
      have HXn := Lib.hid (Msg.hb_at HX.out d5)
      have HQn := Lib.hid (Msg.hb_at HQ.out d5)
      have HFn := Lib.hid (Flds.holds_more (Flds.holds_below HF.out d5) (Below.size d5))
      have HXFn := Lib.hid (Flds.holds_more (Flds.holds_below HXF.out d5) (Below.size d5))
      have HRn := Lib.hid (Msg.hb_at HR.out d5)
      clear HX HQ HF HXF HR
      have HX := HXn
      clear HXn
      have HQ := HQn
      clear HQn
      have HF := HFn
      clear HFn
      have HXF := HXFn
      clear HXFn
      have HR := HRn
      clear HRn
      have BW' := Lib.hid (Base.then_below BW.out d5)
      clear BW
      have BW := BW'
      clear BW'
      clear d5 H5 p0 p1 p2
      have H6' := Lib.hid (H6.out _ BW.out)
      clear H6
      go_wp2_with (fail)
      go_at_call 12
      refine H6'.out.mono ?_
      rintro e w6 ⟨ay, cy, rfl, hyf, d6⟩
      have da := (Below.refl w6.heap.size w6).alloc (Nat.le_refl _) (.cells #[.int .i64 c, .slice ay lx.length cy, .string ⟨b.toArray⟩] 31)
      have dd := Base.then_below d6 da
      have HYF := Lib.hid (Flds.holds_more (Flds.holds_below hyf da) da.size)
      have HY := Lib.hid (Msg.hb_new w6 #[.int .i64 c, .slice ay lx.length cy, .string ⟨b.toArray⟩] 31)
      have HXn := Lib.hid (Msg.hb_at HX.out dd)
      have HQn := Lib.hid (Msg.hb_at HQ.out dd)
      have HFn := Lib.hid (Flds.holds_more (Flds.holds_below HF.out dd) (Below.size dd))
      have HXFn := Lib.hid (Flds.holds_more (Flds.holds_below HXF.out dd) (Below.size dd))
      have HRn := Lib.hid (Msg.hb_at HR.out dd)
      clear HX HQ HF HXF HR
      have HX := HXn
      clear HXn
      have HQ := HQn
      clear HQn
      have HF := HFn
      clear HFn
      have HXF := HXFn
      clear HXFn
      have HR := HRn
      clear HRn
      have BW' := Lib.hid (Base.then_below BW.out dd)
      clear BW
      have BW := BW'
      clear BW'
      clear d6 da dd hyf H6'
      have HI1 := Lib.hid (isq m h t _ _ l false _ HF.out (Nat.le_refl _) (by omega) (by omega) (by omega) (by omega) hr1)
      obtain ⟨⟨s0, s1, s2, s3⟩, _⟩ := Msg.z4 HX.out
      go_wp2_with (fail)
      go_at_call 21
      refine HI1.out.mono ?_
      rintro e w7 ⟨rfl, d7⟩
      clear s0 s1 s2 s3
      have HXn := Lib.hid (Msg.hb_at HX.out d7)
      have HQn := Lib.hid (Msg.hb_at HQ.out d7)
      have HFn := Lib.hid (Flds.holds_more (Flds.holds_below HF.out d7) (Below.size d7))
      have HXFn := Lib.hid (Flds.holds_more (Flds.holds_below HXF.out d7) (Below.size d7))
      have HRn := Lib.hid (Msg.hb_at HR.out d7)
      have HYFn := Lib.hid (Flds.holds_more (Flds.holds_below HYF.out d7) (Below.size d7))
      have HYn := Lib.hid (Msg.hb_at HY.out d7)
      clear HX HQ HF HXF HR HYF HY
      have HX := HXn
      clear HXn
      have HQ := HQn
      clear HQn
      have HF := HFn
      clear HFn
      have HXF := HXFn
      clear HXFn
      have HR := HRn
      clear HRn
      have HYF := HYFn
      clear HYFn
      have HY := HYn
      clear HYn
      have BW' := Lib.hid (Base.then_below BW.out d7)
      clear BW
      have BW := BW'
      clear BW'
      clear d7 HI1
      have HI2 := Lib.hid (isr c _ _ lx b true _ HXF.out (Nat.le_refl _) (by omega) (by omega) hr2)
      obtain ⟨⟨p0, p1, p2⟩, _⟩ := Msg.z3 HR.out
      go_wp2_with (fail)
      go_at_call 22
      refine HI2.out.mono ?_
      rintro e w8 ⟨rfl, d8⟩
      clear p0 p1 p2
      have HXn := Lib.hid (Msg.hb_at HX.out d8)
      have HQn := Lib.hid (Msg.hb_at HQ.out d8)
      have HFn := Lib.hid (Flds.holds_more (Flds.holds_below HF.out d8) (Below.size d8))
      have HXFn := Lib.hid (Flds.holds_more (Flds.holds_below HXF.out d8) (Below.size d8))
      have HRn := Lib.hid (Msg.hb_at HR.out d8)
      have HYFn := Lib.hid (Flds.holds_more (Flds.holds_below HYF.out d8) (Below.size d8))
      have HYn := Lib.hid (Msg.hb_at HY.out d8)
      clear HX HQ HF HXF HR HYF HY
      have HX := HXn
      clear HXn
      have HQ := HQn
      clear HQn
      have HF := HFn
      clear HFn
      have HXF := HXFn
      clear HXFn
      have HR := HRn
      clear HRn
      have HYF := HYFn
      clear HYFn
      have HY := HYn
      clear HYn
      have BW' := Lib.hid (Base.then_below BW.out d8)
      clear BW
      have BW := BW'
      clear BW'
      clear d8 HI2
      obtain ⟨⟨p0, p1, p2⟩, _⟩ := Msg.z3 HR.out
      obtain ⟨⟨r0, r1, r2⟩, _⟩ := Msg.z3 HY.out
      have HSR := Lib.hid (srsp_yes c _ _ lx b _ _ _ HXF.out HYF.out (Nat.le_refl _) (Nat.le_refl _) (by omega))
      go_wp2_with (fail)
      go_at_call 24
      refine HSR.out.mono ?_
      rintro e wx ⟨rfl, dx⟩
      clear p0 p1 p2 r0 r1 r2
      have BW' := Lib.hid (Base.then_below BW.out dx)
      clear BW
      have BW := BW'
      clear BW'
      clear dx HSR
      go_wp2
      go_ret
      exact ⟨rfl, BW.out⟩
    | false =>
      have hf2 : Msg.fmtRsp c lx b = [] := by unfold Msg.fmtRsp; rw [hr2]; rfl
      have H5 := Lib.hid (fr c _ _ lx b _ _ HXF.out (Nat.le_refl _) (by omega) (by omega) (HER.out _ BW.out).2.2 hf2)
      have H6 := Lib.hid (fun W (hw : Below w.heap.size w W) => Msg.prsp_nil W (HER.out _ hw).2.1)
      clear hf2
      go_wp2_with (fail)
      go_at_call 20
      refine H5.out.mono ?_
      rintro e w5 ⟨rfl, d5⟩
      have HXn := Lib.hid (Msg.hb_at HX.out d5)
      have HQn := Lib.hid (Msg.hb_at HQ.out d5)
      have HFn := Lib.hid (Flds.holds_more (Flds.holds_below HF.out d5) (Below.size d5))
      have HXFn := Lib.hid (Flds.holds_more (Flds.holds_below HXF.out d5) (Below.size d5))
      have HRn := Lib.hid (Msg.hb_at HR.out d5)
      clear HX HQ HF HXF HR
      have HX := HXn
      clear HXn
      have HQ := HQn
      clear HQn
      have HF := HFn
      clear HFn
      have HXF := HXFn
      clear HXFn
      have HR := HRn
      clear HRn
      have BW' := Lib.hid (Base.then_below BW.out d5)
      clear BW
      have BW := BW'
      clear BW'
      clear d5 H5 p0 p1 p2
      have H6' := Lib.hid (H6.out _ BW.out)
      clear H6
      go_wp2_with (fail)
      go_at_call 12
      refine H6'.out.mono ?_
      rintro e w6 ⟨rfl, d6⟩
      have da := (Below.refl w6.heap.size w6).alloc (Nat.le_refl _) (.cells #[.int .i64 0, .slice none 0 0, .string ⟨#[]⟩] 31)
      have dd := Base.then_below d6 da
      have HXn := Lib.hid (Msg.hb_at HX.out dd)
      have HQn := Lib.hid (Msg.hb_at HQ.out dd)
      have HFn := Lib.hid (Flds.holds_more (Flds.holds_below HF.out dd) (Below.size dd))
      have HXFn := Lib.hid (Flds.holds_more (Flds.holds_below HXF.out dd) (Below.size dd))
      have HRn := Lib.hid (Msg.hb_at HR.out dd)
      clear HX HQ HF HXF HR
      have HX := HXn
      clear HXn
      have HQ := HQn
      clear HQn
      have HF := HFn
      clear HFn
      have HXF := HXFn
      clear HXFn
      have HR := HRn
      clear HRn
      have BW' := Lib.hid (Base.then_below BW.out dd)
      clear BW
      have BW := BW'
      clear BW'
      clear d6 da dd H6'
      have HI1 := Lib.hid (isq m h t _ _ l false _ HF.out (Nat.le_refl _) (by omega) (by omega) (by omega) (by omega) hr1)
      obtain ⟨⟨s0, s1, s2, s3⟩, _⟩ := Msg.z4 HX.out
      go_wp2_with (fail)
      go_at_call 21
      refine HI1.out.mono ?_
      rintro e w7 ⟨rfl, d7⟩
      clear s0 s1 s2 s3
      have HXn := Lib.hid (Msg.hb_at HX.out d7)
      have HQn := Lib.hid (Msg.hb_at HQ.out d7)
      have HFn := Lib.hid (Flds.holds_more (Flds.holds_below HF.out d7) (Below.size d7))
      have HXFn := Lib.hid (Flds.holds_more (Flds.holds_below HXF.out d7) (Below.size d7))
      have HRn := Lib.hid (Msg.hb_at HR.out d7)
      clear HX HQ HF HXF HR
      have HX := HXn
      clear HXn
      have HQ := HQn
      clear HQn
      have HF := HFn
      clear HFn
      have HXF := HXFn
      clear HXFn
      have HR := HRn
      clear HRn
      have BW' := Lib.hid (Base.then_below BW.out d7)
      clear BW
      have BW := BW'
      clear BW'
      clear d7 HI1
      have HI2 := Lib.hid (isr c _ _ lx b false _ HXF.out (Nat.le_refl _) (by omega) (by omega) hr2)
      obtain ⟨⟨p0, p1, p2⟩, _⟩ := Msg.z3 HR.out
      go_wp2_with (fail)
      go_at_call 22
      refine HI2.out.mono ?_
      rintro e w8 ⟨rfl, d8⟩
      clear p0 p1 p2
      have HXn := Lib.hid (Msg.hb_at HX.out d8)
      have HQn := Lib.hid (Msg.hb_at HQ.out d8)
      have HFn := Lib.hid (Flds.holds_more (Flds.holds_below HF.out d8) (Below.size d8))
      have HXFn := Lib.hid (Flds.holds_more (Flds.holds_below HXF.out d8) (Below.size d8))
      have HRn := Lib.hid (Msg.hb_at HR.out d8)
      clear HX HQ HF HXF HR
      have HX := HXn
      clear HXn
      have HQ := HQn
      clear HQn
      have HF := HFn
      clear HFn
      have HXF := HXFn
      clear HXFn
      have HR := HRn
      clear HRn
      have BW' := Lib.hid (Base.then_below BW.out d8)
      clear BW
      have BW := BW'
      clear BW'
      clear d8 HI2
      go_wp2
      go_ret
      exact ⟨rfl, BW.out⟩
end Go.Proofs.YtfkejnbkglaokaaGreatDoor.fnMessages
