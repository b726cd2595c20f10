/-
  CONTRACTS AND PLAIN FACTS, several texts in one; each says in its own words what it proves.
-/
import Derived.Test.YtegaakgmfphcaaaGreatDoorPartE
import Derived.Test.YtegaakgmfphcaaaGreatDoorPartM
import Derived.Test.YtegaakgmfphcaaaGreatDoorPartR
set_option linter.unusedSimpArgs false
set_option linter.unusedVariables false

/-
  THE WALK of the law of chapter 12.
-/
namespace Go.Proofs.YtegaakgmfphcaaaGreatDoor.fnKeys
open Go Go.RowKit
set_option linter.unusedVariables false
set_option maxRecDepth 1000000
set_option maxRecDepth 1000000

def GS (wr u : World) : Prop := Below wr.heap.size wr u
theorem gs_call {wr w0 w1 : World} (h : GS wr w0) (hb : Below w0.heap.size w0 w1) : GS wr w1 := Base.then_below h hb
theorem addb (s t : ByteArray) (l : List UInt8) (hl : s.data.toList ++ t.data.toList = l) (h : l.length ≤ 1000000000) (W : World) :
    (Op.stringOp .add s t).run Tryz.prog W = .ok (.string ⟨l.toArray⟩) W := by
  subst hl
  obtain ⟨⟨a⟩⟩ := s
  obtain ⟨⟨b⟩⟩ := t
  exact Tx.addtwo a b (by rw [List.length_append] at h; exact h) W
theorem nt_i (l t : List UInt8) (z : Bool) (w : World) (hl : l.length ≤ 4194200) (he : Par.Errs w) (hm : Sh.MxL w) (h : Nt.ntar l = (t, z)) :
    Calls Tryz.prog 14 #[.string ⟨l.toArray⟩] w fun e w' => e = .returned (.tuple #[.string ⟨t.toArray⟩, .bool z]) ∧ Below w.heap.size w w' := by
  have := Nt.impl_nt l w hl he hm
  unfold Nt.PairEnd at this
  rw [h] at this
  exact this
theorem nt_s (l t : List UInt8) (z : Bool) (w : World) (hl : l.length ≤ 4194200) (h : Nt.ntar l = (t, z)) :
    Calls Tryz.prog 15 #[.string ⟨l.toArray⟩] w fun e w' => e = .returned (.tuple #[.string ⟨t.toArray⟩, .bool z]) ∧ Below w.heap.size w w' := by
  have := Nt.spec_nt l w hl
  unfold Nt.PairEnd at this
  rw [h] at this
  exact this
theorem isn_i (l : List UInt8) (w : World) (hl : l.length ≤ 4194200) (he : Par.Errs w) (hm : Sh.MxL w) (h : Nt.ntar l = (l, true)) :
    Calls Tryz.prog 16 #[.string ⟨l.toArray⟩] w fun e w' => e = .returned (.bool true) ∧ Below w.heap.size w w' := by
  refine (Nt.impl_isnt l w hl he hm).mono ?_
  rintro e w' ⟨h1, h2⟩
  refine ⟨?_, h2⟩
  rw [h1]; unfold Nt.isnt; rw [h]; simp
theorem key_i (m h t : List UInt8) (v : Value) (B : Nat) (l : List Flds.Fld) (k : List UInt8) (z : Bool) (w : World) (hh : Flds.Holds w B v l) (hB : B ≤ w.heap.size) (hl : Flds.total l ≤ 1048576) (hm : m.length ≤ 1048576) (hhl : h.length ≤ 1048576) (ht : t.length ≤ 1048576) (he : Par.Errs w) (hmx : Sh.MxL w) (hk : Nt.keyp m h t l = (k, z)) :
    Calls Tryz.prog 19 #[.agg #[.string ⟨m.toArray⟩, .string ⟨h.toArray⟩, .string ⟨t.toArray⟩, v]] w fun e w' => e = .returned (.tuple #[.string ⟨k.toArray⟩, .bool z]) ∧ Below w.heap.size w w' := by
  have := Nt.impl_key m h t v B l w hh hB hl hm hhl ht he hmx
  unfold Nt.PairEnd at this
  rw [hk] at this
  exact this
theorem key_again {m h t k : List UInt8} {l : List Flds.Fld} (hk : Nt.keyp m h t l = (k, true)) : Nt.keyp m h (Nt.ntar t).1 l = (k, true) := by
  unfold Nt.keyp at hk ⊢
  split at hk
  · rename_i hh
    rw [Bool.and_eq_true] at hh
    obtain ⟨h1, h2⟩ := hh
    have h3 := Nt.ntar_again h1
    have h4 : Msg.reqOk m h (Nt.ntar t).1 l = true := by
      unfold Msg.reqOk at h2 ⊢
      simp only [Bool.and_eq_true] at h2 ⊢
      exact ⟨⟨h2.1.1, Nt.targ_ntar h1 h2.1.2⟩, h2.2⟩
    rw [h3, h4]
    exact hk
  · cases hk
theorem box_at {w w' : World} {a b c d : Value} {T : TypeId} (hb : Below (w.heap.size + 1) (w.alloc (.cells #[a, b, c, d] T)) w') : w'.heap[w.heap.size]? = some (.cells #[a, b, c, d] T (0, 0)) := (hb.block _ (Nat.lt_succ_self _)).trans (Cur.box4_new w a b c d T)
theorem cut_query {s p q : List UInt8} {z : Bool} (h : Tx.cutAt 63 s = (p, q, z)) (hz : z = true) : s = p ++ 63 :: q ∧ (∀ d ∈ p, d ≠ 63) := by
  rcases Nt.cut_cases 63 s with h1 | ⟨x, r, e, h1⟩
  · rw [Nt.cut_no h1] at h
    cases h; cases hz
  · rw [e, Nt.cut_yes r h1] at h
    cases h
    exact ⟨e, h1⟩

set_option maxHeartbeats 16000000 in
theorem walk (b0 : Option Addr) (l0 c0 : Nat) (w0 : l0 ≤ maxLen) (w : World) (y0 : l0 ≤ 1048576 → Cur.Bytes w w.heap.size (.slice b0 l0 c0)) (her : Par.Errs w) (hmx : Sh.MxL w) :
    Calls Tryz.prog 4 #[.slice b0 l0 c0] w fun e w' => e = .returned (.bool true) ∧ Below w.heap.size w w' := by
  clear w0
  by_cases hbig : 1048576 < (l0 : Int)
  · go_enter Tryz.func4, Tryz.ntmps4
    go_wp2_with (go_at_call 5; refine (Cur.big_yes _ _ _ _ hbig).mono ?_; rintro e w' ⟨rfl, rfl⟩)
    go_ret
    exact ⟨rfl, Below.refl _ _⟩
  have HBY := Lib.hid (y0 (by omega))
  have HER := Lib.hid (fun W (hb : Below w.heap.size w W) => And.intro (Par.errs_below her hb) (Sh.mxl_below hmx hb))
  clear y0 her hmx
  go_enter Tryz.func4, Tryz.ntmps4
  go_wp2_with (fail)
  go_at_call 5
  refine (Cur.big_no _ _ _ _ (by omega)).mono ?_
  rintro e w' ⟨rfl, rfl⟩
  go_wp2_with (fail)
  go_at_call 13
  refine (Cur.draw_nt _ _ _ HBY.out (Nat.le_refl _)).mono ?_
  rintro e w1 ⟨s, hs, rfl, b1⟩
  have B1 := Lib.hid b1
  obtain ⟨t, ok, hnt⟩ : ∃ t ok, Nt.ntar s = (t, ok) := ⟨_, _, rfl⟩
  have htl : t.length ≤ 84 := by have h := Nt.ntar_len s; rw [hnt] at h; dsimp only at h; omega
  have HN1 := Lib.hid (nt_i s t ok w1 (by omega) (HER.out _ b1).1 (HER.out _ b1).2 hnt)
  have HN2 := Lib.hid (fun W => nt_s s t ok W (by omega) hnt)
  have HNT := Lib.hid hnt
  clear b1 hnt
  go_wp2_with (fail)
  go_at_call 14
  refine HN1.out.mono ?_
  rintro e w2 ⟨rfl, b2⟩
  have B2 := Lib.hid (Base.then_below B1.out b2)
  clear b2 B1 HN1
  go_wp2_with (fail)
  go_at_call 15
  refine (HN2.out _).mono ?_
  rintro e w3 ⟨rfl, b3⟩
  have B3 := Lib.hid (Base.then_below B2.out b3)
  clear b3 B2 HN2
  cases ok with
  | true =>
    have h2 : (Nt.ntar s).2 = true := by rw [HNT.out]
    have hag := Nt.ntar_again h2
    obtain ⟨r0, hr0⟩ := Nt.ntar_head h2
    rw [HNT.out] at hag hr0
    dsimp only at hag hr0
    subst hr0
    have HN4 := Lib.hid (nt_i _ _ true w3 (by omega) (HER.out _ B3.out).1 (HER.out _ B3.out).2 hag)
    have HIS := Lib.hid (fun W (hb : Below w.heap.size w W) => isn_i _ W (by omega) (HER.out _ hb).1 (HER.out _ hb).2 hag)
    clear h2 hag
    go_wp2_with (fail)
    go_at_call 14
    refine HN4.out.mono ?_
    rintro e w4 ⟨rfl, b4⟩
    have B4 := Lib.hid (Base.then_below B3.out b4)
    have HI4 := Lib.hid (HIS.out _ B4.out)
    clear b4 B3 HN4 HIS
    go_wp2_with (fail)
    go_at_call 16
    refine HI4.out.mono ?_
    rintro e w5 ⟨rfl, b5⟩
    have B5 := Lib.hid (Base.then_below B4.out b5)
    have hz0 : (0 : Nat) < (⟨(47 :: r0).toArray⟩ : ByteArray).size := by simp [ByteArray.size]
    have hb0 : (⟨(47 :: r0).toArray⟩ : ByteArray)[0] = 47 := rfl
    clear b5 B4 HI4
    have HBASE : Hid (w.heap.size ≤ w5.heap.size) := Lib.hid B5.out.size
    obtain ⟨pa, qu, so, hcut⟩ : ∃ pa qu so, Tx.cutAt 63 s = (pa, qu, so) := ⟨_, _, _, rfl⟩
    have HCQ := Lib.hid (fun e => cut_query hcut e)
    have hpl := (Nt.cut_len 63 s).1
    have hql := (Nt.cut_len 63 s).2
    have HT := Lib.hid (Tx.impl_tgt s w5 (by omega))
    unfold Tx.CutEnd at HT
    rw [hcut] at HT hpl hql
    dsimp only at HT hpl hql
    clear hcut
    go_wp2_with (fail)
    go_at_call 17
    refine HT.out.mono ?_
    rintro e w6 ⟨rfl, b6⟩
    have B6 := Lib.hid (Base.then_below B5.out b6)
    clear b6 B5 HT
    obtain ⟨sq, hsq⟩ : ∃ sq : ByteArray, (⟨qu.toArray⟩ : ByteArray) = sq := ⟨_, rfl⟩
    have HSQ : Hid (sq.data.toList = qu) := Lib.hid (by rw [← hsq])
    have hsz : sq.size = qu.length := by rw [← hsq]; simp [ByteArray.size]
    rw [hsq]
    have HQZ := Lib.hid hsz
    have hq40 : sq.size ≤ 40 := by omega
    clear hsq hsz
    go_wp2
    go_loopw [13] (fun i wr => ∃ k : Nat, k ≤ sq.size ∧ i = .int .i64 (k : Int) ∧ Hid (∀ j (hj : j < sq.data.toList.length), j < k → sq.data.toList[j] ≠ 38) ∧ wr = w6) (fun i _ => sq.size - (intOf i).toNat)
    case atStart => exact ⟨0, Nat.zero_le _, rfl, Lib.hid (fun j hj h => absurd h (by omega)), rfl⟩
    case round =>
      obtain ⟨k, hk, rfl, HN, rfl⟩ := hrel
      by_cases hlt : k < sq.size
      case neg =>
        obtain rfl : k = sq.size := by omega
        have B9 := B6
        clear HN HCQ hlt
        cases so
        all_goals (
          have HKD := Lib.hid (Cur.draw_ko _ _ _ (Cur.bytes_below HBY.out B9.out) B9.out.size)
          go_wp2_with (fail)
          go_at_call 18
          refine HKD.out.mono ?_
          rintro e wa ⟨m, h, tt, v, lf, rfl, ⟨hm, hh, ht, hfw⟩, of, ba⟩
          have hft := Cur.few_total hfw
          have hwa := Nat.le_trans B9.out.size ba.size
          have haa := (Below.refl wa.heap.size wa).alloc (Nat.le_refl _) (.cells #[.string ⟨m.toArray⟩, .string ⟨h.toArray⟩, .string ⟨tt.toArray⟩, v] 26)
          have B10 := Lib.hid (Base.then_below B9.out (Base.then_below ba haa))
          have HF10 := Lib.hid (Flds.holds_below (Flds.own_holds of) haa)
          have HZ10 := Lib.hid haa.size
          have HX10 := Lib.hid (Cur.box4_new wa (.string ⟨m.toArray⟩) (.string ⟨h.toArray⟩) (.string ⟨tt.toArray⟩) v 26)
          obtain ⟨av, cv, rfl, _⟩ := Flds.shape_of of
          obtain ⟨ky, hz, hkz⟩ : ∃ ky hz, Nt.keyp m h tt lf = (ky, hz) := ⟨_, _, rfl⟩
          obtain ⟨t2, z2, ht2⟩ : ∃ t2 z2, Nt.ntar tt = (t2, z2) := ⟨_, _, rfl⟩
          have htl2 : t2.length ≤ 84 := by have h9 := Nt.ntar_len tt; rw [ht2] at h9; dsimp only at h9; omega
          obtain ⟨ky2, hz2, hkz2⟩ : ∃ ky2 hz2, Nt.keyp m h t2 lf = (ky2, hz2) := ⟨_, _, rfl⟩
          have HEQ : Hid (hz = true → hz2 = true ∧ ky2 = ky) := Lib.hid (fun e => by
            rw [e] at hkz
            have h9 := key_again hkz
            rw [ht2] at h9
            dsimp only at h9
            rw [hkz2] at h9
            cases h9; exact ⟨rfl, rfl⟩)
          have HK1 := Lib.hid (key_i m h tt _ _ lf ky hz (wa.alloc (.cells #[.string ⟨m.toArray⟩, .string ⟨h.toArray⟩, .string ⟨tt.toArray⟩, .slice av lf.length cv] 26)) HF10.out HZ10.out (by omega) (by omega) (by omega) (by omega) (HER.out _ B10.out).1 (HER.out _ B10.out).2 hkz)
          have HN9 := Lib.hid (fun W (hb : Below w.heap.size w W) => nt_i tt t2 z2 W (by omega) (HER.out _ hb).1 (HER.out _ hb).2 ht2)
          have HK2 := Lib.hid (fun W (hb : Below w.heap.size w W) (hf : Flds.Holds W wa.heap.size (.slice av lf.length cv) lf) (hs : wa.heap.size ≤ W.heap.size) => key_i m h t2 _ _ lf ky2 hz2 W hf hs (by omega) (by omega) (by omega) (by omega) (HER.out _ hb).1 (HER.out _ hb).2 hkz2)
          obtain ⟨⟨q0, q1, q2, q3⟩, _⟩ := Cur.box4 HX10.out
          clear haa ba of hfw hkz ht2 hkz2 B9 HKD
          go_wp2_with (fail)
          go_at_call 19
          refine HK1.out.mono ?_
          rintro e wb ⟨rfl, bb⟩
          clear q0 q1 q2 q3
          have HX11 := Lib.hid (Cur.blk_below HX10.out bb)
          obtain ⟨⟨q0, q1, q2, q3⟩, _⟩ := Cur.box4 HX11.out
          have hab := (Below.refl wb.heap.size wb).alloc (Nat.le_refl _) (.cells #[.string ⟨m.toArray⟩, .string ⟨h.toArray⟩, .string ⟨tt.toArray⟩, .slice av lf.length cv] 26)
          have B11 := Lib.hid (Base.then_below B10.out (Base.then_below bb hab))
          have HF11 := Lib.hid (Flds.holds_below HF10.out ((Base.then_below bb hab).mono HZ10.out))
          have HZ11 := Lib.hid (Nat.le_trans HZ10.out (Base.then_below bb hab).size)
          have HY11 := Lib.hid (Cur.box4_new wb (.string ⟨m.toArray⟩) (.string ⟨h.toArray⟩) (.string ⟨tt.toArray⟩) (.slice av lf.length cv) 26)
          obtain ⟨⟨p0, p1, p2, p3⟩, _⟩ := Cur.box4 (Cur.blk_below HX11.out hab)
          have HN11 := Lib.hid (HN9.out _ B11.out)
          have hwab : wa.heap.size < wb.heap.size := Cur.lt_of_block HX11.out
          clear bb hab B10 HF10 HZ10 HX10 HX11 HK1 HN9
          go_wp2_with (fail)
          go_at_call 14
          refine HN11.out.mono ?_
          rintro e wc ⟨rfl, bc⟩
          clear q0 q1 q2 q3 p0 p1 p2 p3
          obtain ⟨⟨q0, q1, q2, q3⟩, ⟨f0, f1, f2, f3⟩⟩ := Cur.box4 (Cur.blk_below HY11.out bc)
          have HB12 := Lib.hid (Base.then_below B11.out bc)
          have hcz : w.heap.size ≤ wb.heap.size := by omega
          have B12 := Lib.hid (Below.setCell HB12.out (p := ⟨wb.heap.size, 2, none⟩) hcz (.string ⟨t2.toArray⟩))
          have HF12 := Lib.hid (Flds.holds_below (Flds.holds_below HF11.out (bc.mono HZ11.out)) (Below.setCell (Below.refl wa.heap.size wc) (p := ⟨wb.heap.size, 2, none⟩) (show wa.heap.size ≤ wb.heap.size by omega) (.string ⟨t2.toArray⟩)))
          have hz12 : wa.heap.size ≤ (wc.setCell ⟨wb.heap.size, 2, none⟩ (.string ⟨t2.toArray⟩)).heap.size := by have h9 := bc.size; have h8 := HZ11.out; show wa.heap.size ≤ (wc.heap.modify _ _).size; rw [Array.size_modify]; omega
          have HK12 := Lib.hid (HK2.out _ B12.out HF12.out hz12)
          clear bc B11 HB12 HF11 HZ11 HY11 HN11 HK2 HF12 hz12 hcz hwab
          go_wp2_with (fail)
          go_at_call 19
          refine HK12.out.mono ?_
          rintro e wd ⟨rfl, bd⟩
          have B13 := Lib.hid (Base.then_below B12.out bd)
          clear bd B12 HK12 q0 q1 q2 q3 f0 f1 f2 f3
          cases hz with
          | false =>
            go_wp2
            go_ret
            exact ⟨rfl, B13.out⟩
          | true =>
            obtain ⟨e1, e2⟩ := HEQ.out rfl
            subst e1
            subst e2
            go_wp2
            go_ret
            exact ⟨by simp, B13.out⟩)
      rcases hc : ((sq[k].toNat : Int) == 38) with _ | _
      · have HC : Hid (sq[k] ≠ 38) := Lib.hid (by intro h; rw [h] at hc; revert hc; decide)
        have hc2 : ((sq[k].toNat : Int) != 38) = true := by rw [bne, hc]; rfl
        go_wp2
        go_roundw
        case rel => exact ⟨k + 1, by omega, by go_num, Lib.hid (fun j hj h => by
          rcases Nat.lt_or_ge j k with h' | h'
          · exact HN.out j hj h'
          · have : j = k := by omega
            subst this; exact HC.out), by first | rfl | trivial | simp⟩
        case measure => simp [intOf]; omega
      have HC : Hid (sq[k] = 38) := Lib.hid (UInt8.toNat_inj.1 (by have := beq_iff_eq.1 hc; simp; omega))
      have hc2 : ((sq[k].toNat : Int) != 38) = false := by rw [bne, hc]; rfl
      have hki : (k : Int) < (sq.size : Int) := by omega
      cases so with
      | false =>
        have B9 := B6
        clear HN HCQ
        have HKD := Lib.hid (Cur.draw_ko _ _ _ (Cur.bytes_below HBY.out B9.out) B9.out.size)
        go_wp2_with (fail)
        go_at_call 18
        refine HKD.out.mono ?_
        rintro e wa ⟨m, h, tt, v, lf, rfl, ⟨hm, hh, ht, hfw⟩, of, ba⟩
        have hft := Cur.few_total hfw
        have hwa := Nat.le_trans B9.out.size ba.size
        have haa := (Below.refl wa.heap.size wa).alloc (Nat.le_refl _) (.cells #[.string ⟨m.toArray⟩, .string ⟨h.toArray⟩, .string ⟨tt.toArray⟩, v] 26)
        have B10 := Lib.hid (Base.then_below B9.out (Base.then_below ba haa))
        have HF10 := Lib.hid (Flds.holds_below (Flds.own_holds of) haa)
        have HZ10 := Lib.hid haa.size
        have HX10 := Lib.hid (Cur.box4_new wa (.string ⟨m.toArray⟩) (.string ⟨h.toArray⟩) (.string ⟨tt.toArray⟩) v 26)
        obtain ⟨av, cv, rfl, _⟩ := Flds.shape_of of
        obtain ⟨ky, hz, hkz⟩ : ∃ ky hz, Nt.keyp m h tt lf = (ky, hz) := ⟨_, _, rfl⟩
        obtain ⟨t2, z2, ht2⟩ : ∃ t2 z2, Nt.ntar tt = (t2, z2) := ⟨_, _, rfl⟩
        have htl2 : t2.length ≤ 84 := by have h9 := Nt.ntar_len tt; rw [ht2] at h9; dsimp only at h9; omega
        obtain ⟨ky2, hz2, hkz2⟩ : ∃ ky2 hz2, Nt.keyp m h t2 lf = (ky2, hz2) := ⟨_, _, rfl⟩
        have HEQ : Hid (hz = true → hz2 = true ∧ ky2 = ky) := Lib.hid (fun e => by
          rw [e] at hkz
          have h9 := key_again hkz
          rw [ht2] at h9
          dsimp only at h9
          rw [hkz2] at h9
          cases h9; exact ⟨rfl, rfl⟩)
        have HK1 := Lib.hid (key_i m h tt _ _ lf ky hz (wa.alloc (.cells #[.string ⟨m.toArray⟩, .string ⟨h.toArray⟩, .string ⟨tt.toArray⟩, .slice av lf.length cv] 26)) HF10.out HZ10.out (by omega) (by omega) (by omega) (by omega) (HER.out _ B10.out).1 (HER.out _ B10.out).2 hkz)
        have HN9 := Lib.hid (fun W (hb : Below w.heap.size w W) => nt_i tt t2 z2 W (by omega) (HER.out _ hb).1 (HER.out _ hb).2 ht2)
        have HK2 := Lib.hid (fun W (hb : Below w.heap.size w W) (hf : Flds.Holds W wa.heap.size (.slice av lf.length cv) lf) (hs : wa.heap.size ≤ W.heap.size) => key_i m h t2 _ _ lf ky2 hz2 W hf hs (by omega) (by omega) (by omega) (by omega) (HER.out _ hb).1 (HER.out _ hb).2 hkz2)
        obtain ⟨⟨q0, q1, q2, q3⟩, _⟩ := Cur.box4 HX10.out
        clear haa ba of hfw hkz ht2 hkz2 B9 HKD
        go_wp2_with (fail)
        go_at_call 19
        refine HK1.out.mono ?_
        rintro e wb ⟨rfl, bb⟩
        clear q0 q1 q2 q3
        have HX11 := Lib.hid (Cur.blk_below HX10.out bb)
        obtain ⟨⟨q0, q1, q2, q3⟩, _⟩ := Cur.box4 HX11.out
        have hab := (Below.refl wb.heap.size wb).alloc (Nat.le_refl _) (.cells #[.string ⟨m.toArray⟩, .string ⟨h.toArray⟩, .string ⟨tt.toArray⟩, .slice av lf.length cv] 26)
        have B11 := Lib.hid (Base.then_below B10.out (Base.then_below bb hab))
        have HF11 := Lib.hid (Flds.holds_below HF10.out ((Base.then_below bb hab).mono HZ10.out))
        have HZ11 := Lib.hid (Nat.le_trans HZ10.out (Base.then_below bb hab).size)
        have HY11 := Lib.hid (Cur.box4_new wb (.string ⟨m.toArray⟩) (.string ⟨h.toArray⟩) (.string ⟨tt.toArray⟩) (.slice av lf.length cv) 26)
        obtain ⟨⟨p0, p1, p2, p3⟩, _⟩ := Cur.box4 (Cur.blk_below HX11.out hab)
        have HN11 := Lib.hid (HN9.out _ B11.out)
        have hwab : wa.heap.size < wb.heap.size := Cur.lt_of_block HX11.out
        clear bb hab B10 HF10 HZ10 HX10 HX11 HK1 HN9
        go_wp2_with (fail)
        go_at_call 14
        refine HN11.out.mono ?_
        rintro e wc ⟨rfl, bc⟩
        clear q0 q1 q2 q3 p0 p1 p2 p3
        obtain ⟨⟨q0, q1, q2, q3⟩, ⟨f0, f1, f2, f3⟩⟩ := Cur.box4 (Cur.blk_below HY11.out bc)
        have HB12 := Lib.hid (Base.then_below B11.out bc)
        have hcz : w.heap.size ≤ wb.heap.size := by omega
        have B12 := Lib.hid (Below.setCell HB12.out (p := ⟨wb.heap.size, 2, none⟩) hcz (.string ⟨t2.toArray⟩))
        have HF12 := Lib.hid (Flds.holds_below (Flds.holds_below HF11.out (bc.mono HZ11.out)) (Below.setCell (Below.refl wa.heap.size wc) (p := ⟨wb.heap.size, 2, none⟩) (show wa.heap.size ≤ wb.heap.size by omega) (.string ⟨t2.toArray⟩)))
        have hz12 : wa.heap.size ≤ (wc.setCell ⟨wb.heap.size, 2, none⟩ (.string ⟨t2.toArray⟩)).heap.size := by have h9 := bc.size; have h8 := HZ11.out; show wa.heap.size ≤ (wc.heap.modify _ _).size; rw [Array.size_modify]; omega
        have HK12 := Lib.hid (HK2.out _ B12.out HF12.out hz12)
        clear bc B11 HB12 HF11 HZ11 HY11 HN11 HK2 HF12 hz12 hcz hwab
        go_wp2_with (fail)
        go_at_call 19
        refine HK12.out.mono ?_
        rintro e wd ⟨rfl, bd⟩
        have B13 := Lib.hid (Base.then_below B12.out bd)
        clear bd B12 HK12 q0 q1 q2 q3 f0 f1 f2 f3
        cases hz with
        | false =>
          go_wp2
          go_ret
          exact ⟨rfl, B13.out⟩
        | true =>
          obtain ⟨e1, e2⟩ := HEQ.out rfl
          subst e1
          subst e2
          go_wp2
          go_ret
          exact ⟨by simp, B13.out⟩
      | true =>
        obtain ⟨hse, hpf⟩ := HCQ.out rfl
        have hdrop : qu.drop k = 38 :: qu.drop (k + 1) := by
          have h9 := Tx.drop_cons sq k hlt
          rw [HSQ.out, HC.out] at h9
          exact h9
        have hqs : qu = qu.take k ++ 38 :: qu.drop (k + 1) := by rw [← hdrop, List.take_append_drop]
        have hturn := Nt.ntar_turn (p := pa) (a := qu.take k) (b := qu.drop (k + 1)) hpf
        rw [← hqs, ← hse, HNT.out] at hturn
        have hxl : (pa ++ 63 :: (qu.drop (k + 1) ++ 38 :: qu.take k)).length ≤ 200 := by simp only [List.length_append, List.length_cons, List.length_drop, List.length_take]; omega
        have HNN := Lib.hid (fun W (hb : Below w.heap.size w W) => nt_i _ _ _ W (by omega) (HER.out _ hb).1 (HER.out _ hb).2 hturn)
        have ex1 : (sq.extract (k + 1) sq.size).data.toList = qu.drop (k + 1) := by
          rw [Tx.ext_eq, HSQ.out]; simp only []
          exact List.take_of_length_le (by rw [List.length_drop, HQZ.out]; omega)
        have ex2 : (sq.extract 0 k).data.toList = qu.take k := by rw [Tx.ext_eq, HSQ.out]; simp
        have a1 := Tx.addtwo pa [63] (by simp only [List.length_cons, List.length_nil]; omega)
        have a2 := addb ⟨(pa ++ [63]).toArray⟩ (sq.extract (k + 1) sq.size) (pa ++ 63 :: qu.drop (k + 1)) (by rw [ex1]; simp) (by simp only [List.length_append, List.length_cons, List.length_drop]; omega)
        have a3 := Tx.addtwo (pa ++ 63 :: qu.drop (k + 1)) [38] (by simp only [List.length_append, List.length_cons, List.length_drop, List.length_nil]; omega)
        have a4 := addb ⟨((pa ++ 63 :: qu.drop (k + 1)) ++ [38]).toArray⟩ (sq.extract 0 k) (pa ++ 63 :: (qu.drop (k + 1) ++ 38 :: qu.take k)) (by rw [ex2]; simp) (by omega)
        generalize pa ++ 63 :: (qu.drop (k + 1) ++ 38 :: qu.take k) = l4 at a4 HNN
        generalize (pa ++ 63 :: qu.drop (k + 1)) ++ [38] = l3 at a3 a4
        generalize pa ++ 63 :: qu.drop (k + 1) = l2 at a2 a3
        generalize pa ++ [63] = l1 at a1 a2
        have HSD : Hid (GS wr wr.drew) := Lib.hid (Rec.below_drew (Below.refl _ _))
        have SK : Hid (∀ v0 v1 : World, GS wr v0 → Below v0.heap.size v0 v1 → GS wr v1) := Lib.hid (fun _ _ h hb => gs_call h hb)
        have HCN := Lib.hid (fun n : RegS.In (GS wr) => HNN.out n.w (Base.then_below B6.out n.h))
        have hk1 : (k : Int) + 1 ≤ (sq.size : Int) := by omega
        have hw1 : IntKind.i64.wrap ((k : Int) + 1) = (k : Int) + 1 := by rw [IntWalk.i64_left]; unfold RowKit.wrap64; omega
        clear hse hpf hdrop hqs hturn hxl HNN ex1 ex2 HN HCQ HC
        go_wp2
        refine RegS.region (GS wr) (by kernel_rfl) (by kernel_rfl) HSD.out ?_
        haveI : Nonempty (RegS.In (GS wr)) := ⟨⟨_, HSD.out⟩⟩
        repeat (first | go_big_quiet_step ((go_at_call 14; with_reducible exact RegS.call (HCN.out _) (fun e w' he => ⟨he.1, SK.out _ _ (RegS.In.h _) he.2⟩))) | quiet_step ((go_at_call 14; with_reducible exact RegS.call (HCN.out _) (fun e w' he => ⟨he.1, SK.out _ _ (RegS.In.h _) he.2⟩))))
        refine wpQuiet_nil ?_
        intro wz hw'
        obtain ⟨⟨wq, hSq⟩, hw''⟩ := hw'
        have B9 : Hid (Below w.heap.size w wz) := Lib.hid (by rw [hw'']; exact Base.then_below B6.out hSq)
        clear hSq hw'' wq a1 a2 a3 a4 HSD SK HCN B6
        have HKD := Lib.hid (Cur.draw_ko _ _ _ (Cur.bytes_below HBY.out B9.out) B9.out.size)
        go_wp2_with (fail)
        go_at_call 18
        refine HKD.out.mono ?_
        rintro e wa ⟨m, h, tt, v, lf, rfl, ⟨hm, hh, ht, hfw⟩, of, ba⟩
        have hft := Cur.few_total hfw
        have hwa := Nat.le_trans B9.out.size ba.size
        have haa := (Below.refl wa.heap.size wa).alloc (Nat.le_refl _) (.cells #[.string ⟨m.toArray⟩, .string ⟨h.toArray⟩, .string ⟨tt.toArray⟩, v] 26)
        have B10 := Lib.hid (Base.then_below B9.out (Base.then_below ba haa))
        have HF10 := Lib.hid (Flds.holds_below (Flds.own_holds of) haa)
        have HZ10 := Lib.hid haa.size
        have HX10 := Lib.hid (Cur.box4_new wa (.string ⟨m.toArray⟩) (.string ⟨h.toArray⟩) (.string ⟨tt.toArray⟩) v 26)
        obtain ⟨av, cv, rfl, _⟩ := Flds.shape_of of
        obtain ⟨ky, hz, hkz⟩ : ∃ ky hz, Nt.keyp m h tt lf = (ky, hz) := ⟨_, _, rfl⟩
        obtain ⟨t2, z2, ht2⟩ : ∃ t2 z2, Nt.ntar tt = (t2, z2) := ⟨_, _, rfl⟩
        have htl2 : t2.length ≤ 84 := by have h9 := Nt.ntar_len tt; rw [ht2] at h9; dsimp only at h9; omega
        obtain ⟨ky2, hz2, hkz2⟩ : ∃ ky2 hz2, Nt.keyp m h t2 lf = (ky2, hz2) := ⟨_, _, rfl⟩
        have HEQ : Hid (hz = true → hz2 = true ∧ ky2 = ky) := Lib.hid (fun e => by
          rw [e] at hkz
          have h9 := key_again hkz
          rw [ht2] at h9
          dsimp only at h9
          rw [hkz2] at h9
          cases h9; exact ⟨rfl, rfl⟩)
        have HK1 := Lib.hid (key_i m h tt _ _ lf ky hz (wa.alloc (.cells #[.string ⟨m.toArray⟩, .string ⟨h.toArray⟩, .string ⟨tt.toArray⟩, .slice av lf.length cv] 26)) HF10.out HZ10.out (by omega) (by omega) (by omega) (by omega) (HER.out _ B10.out).1 (HER.out _ B10.out).2 hkz)
        have HN9 := Lib.hid (fun W (hb : Below w.heap.size w W) => nt_i tt t2 z2 W (by omega) (HER.out _ hb).1 (HER.out _ hb).2 ht2)
        have HK2 := Lib.hid (fun W (hb : Below w.heap.size w W) (hf : Flds.Holds W wa.heap.size (.slice av lf.length cv) lf) (hs : wa.heap.size ≤ W.heap.size) => key_i m h t2 _ _ lf ky2 hz2 W hf hs (by omega) (by omega) (by omega) (by omega) (HER.out _ hb).1 (HER.out _ hb).2 hkz2)
        obtain ⟨⟨q0, q1, q2, q3⟩, _⟩ := Cur.box4 HX10.out
        clear haa ba of hfw hkz ht2 hkz2 B9 HKD
        go_wp2_with (fail)
        go_at_call 19
        refine HK1.out.mono ?_
        rintro e wb ⟨rfl, bb⟩
        clear q0 q1 q2 q3
        have HX11 := Lib.hid (Cur.blk_below HX10.out bb)
        obtain ⟨⟨q0, q1, q2, q3⟩, _⟩ := Cur.box4 HX11.out
        have hab := (Below.refl wb.heap.size wb).alloc (Nat.le_refl _) (.cells #[.string ⟨m.toArray⟩, .string ⟨h.toArray⟩, .string ⟨tt.toArray⟩, .slice av lf.length cv] 26)
        have B11 := Lib.hid (Base.then_below B10.out (Base.then_below bb hab))
        have HF11 := Lib.hid (Flds.holds_below HF10.out ((Base.then_below bb hab).mono HZ10.out))
        have HZ11 := Lib.hid (Nat.le_trans HZ10.out (Base.then_below bb hab).size)
        have HY11 := Lib.hid (Cur.box4_new wb (.string ⟨m.toArray⟩) (.string ⟨h.toArray⟩) (.string ⟨tt.toArray⟩) (.slice av lf.length cv) 26)
        obtain ⟨⟨p0, p1, p2, p3⟩, _⟩ := Cur.box4 (Cur.blk_below HX11.out hab)
        have HN11 := Lib.hid (HN9.out _ B11.out)
        have hwab : wa.heap.size < wb.heap.size := Cur.lt_of_block HX11.out
        clear bb hab B10 HF10 HZ10 HX10 HX11 HK1 HN9
        go_wp2_with (fail)
        go_at_call 14
        refine HN11.out.mono ?_
        rintro e wc ⟨rfl, bc⟩
        clear q0 q1 q2 q3 p0 p1 p2 p3
        obtain ⟨⟨q0, q1, q2, q3⟩, ⟨f0, f1, f2, f3⟩⟩ := Cur.box4 (Cur.blk_below HY11.out bc)
        have HB12 := Lib.hid (Base.then_below B11.out bc)
        have hcz : w.heap.size ≤ wb.heap.size := by omega
        have B12 := Lib.hid (Below.setCell HB12.out (p := ⟨wb.heap.size, 2, none⟩) hcz (.string ⟨t2.toArray⟩))
        have HF12 := Lib.hid (Flds.holds_below (Flds.holds_below HF11.out (bc.mono HZ11.out)) (Below.setCell (Below.refl wa.heap.size wc) (p := ⟨wb.heap.size, 2, none⟩) (show wa.heap.size ≤ wb.heap.size by omega) (.string ⟨t2.toArray⟩)))
        have hz12 : wa.heap.size ≤ (wc.setCell ⟨wb.heap.size, 2, none⟩ (.string ⟨t2.toArray⟩)).heap.size := by have h9 := bc.size; have h8 := HZ11.out; show wa.heap.size ≤ (wc.heap.modify _ _).size; rw [Array.size_modify]; omega
        have HK12 := Lib.hid (HK2.out _ B12.out HF12.out hz12)
        clear bc B11 HB12 HF11 HZ11 HY11 HN11 HK2 HF12 hz12 hcz hwab
        go_wp2_with (fail)
        go_at_call 19
        refine HK12.out.mono ?_
        rintro e wd ⟨rfl, bd⟩
        have B13 := Lib.hid (Base.then_below B12.out bd)
        clear bd B12 HK12 q0 q1 q2 q3 f0 f1 f2 f3
        cases hz with
        | false =>
          go_wp2
          go_ret
          exact ⟨rfl, B13.out⟩
        | true =>
          obtain ⟨e1, e2⟩ := HEQ.out rfl
          subst e1
          subst e2
          go_wp2
          go_ret
          exact ⟨by simp, B13.out⟩
  | false =>
    have hno : Nt.ntar s = ([], false) := Nt.ntar_no (by rw [HNT.out])
    rw [HNT.out] at hno
    cases hno
    obtain ⟨u, ag, hua⟩ : ∃ u ag, Nt.ntar [] = (u, ag) := ⟨_, _, rfl⟩
    have HN4 := Lib.hid (nt_i [] u ag w3 (by decide) (HER.out _ B3.out).1 (HER.out _ B3.out).2 hua)
    clear hua
    go_wp2_with (fail)
    go_at_call 14
    refine HN4.out.mono ?_
    rintro e w5 ⟨rfl, b5⟩
    have B5 := Lib.hid (Base.then_below B3.out b5)
    clear b5 B3 HN4
    have HBASE : Hid (w.heap.size ≤ w5.heap.size) := Lib.hid B5.out.size
    obtain ⟨pa, qu, so, hcut⟩ : ∃ pa qu so, Tx.cutAt 63 s = (pa, qu, so) := ⟨_, _, _, rfl⟩
    have HCQ := Lib.hid (fun e => cut_query hcut e)
    have hpl := (Nt.cut_len 63 s).1
    have hql := (Nt.cut_len 63 s).2
    have HT := Lib.hid (Tx.impl_tgt s w5 (by omega))
    unfold Tx.CutEnd at HT
    rw [hcut] at HT hpl hql
    dsimp only at HT hpl hql
    clear hcut
    go_wp2_with (fail)
    go_at_call 17
    refine HT.out.mono ?_
    rintro e w6 ⟨rfl, b6⟩
    have B6 := Lib.hid (Base.then_below B5.out b6)
    clear b6 B5 HT
    obtain ⟨sq, hsq⟩ : ∃ sq : ByteArray, (⟨qu.toArray⟩ : ByteArray) = sq := ⟨_, rfl⟩
    have HSQ : Hid (sq.data.toList = qu) := Lib.hid (by rw [← hsq])
    have hsz : sq.size = qu.length := by rw [← hsq]; simp [ByteArray.size]
    rw [hsq]
    have HQZ := Lib.hid hsz
    have hq40 : sq.size ≤ 40 := by omega
    clear hsq hsz
    go_wp2
    go_loopw [13] (fun i wr => ∃ k : Nat, k ≤ sq.size ∧ i = .int .i64 (k : Int) ∧ Hid (∀ j (hj : j < sq.data.toList.length), j < k → sq.data.toList[j] ≠ 38) ∧ wr = w6) (fun i _ => sq.size - (intOf i).toNat)
    case atStart => exact ⟨0, Nat.zero_le _, rfl, Lib.hid (fun j hj h => absurd h (by omega)), rfl⟩
    case round =>
      obtain ⟨k, hk, rfl, HN, rfl⟩ := hrel
      by_cases hlt : k < sq.size
      case neg =>
        obtain rfl : k = sq.size := by omega
        have B9 := B6
        clear HN HCQ hlt
        cases so
        all_goals (
          have HKD := Lib.hid (Cur.draw_ko _ _ _ (Cur.bytes_below HBY.out B9.out) B9.out.size)
          go_wp2_with (fail)
          go_at_call 18
          refine HKD.out.mono ?_
          rintro e wa ⟨m, h, tt, v, lf, rfl, ⟨hm, hh, ht, hfw⟩, of, ba⟩
          have hft := Cur.few_total hfw
          have hwa := Nat.le_trans B9.out.size ba.size
          have haa := (Below.refl wa.heap.size wa).alloc (Nat.le_refl _) (.cells #[.string ⟨m.toArray⟩, .string ⟨h.toArray⟩, .string ⟨tt.toArray⟩, v] 26)
          have B10 := Lib.hid (Base.then_below B9.out (Base.then_below ba haa))
          have HF10 := Lib.hid (Flds.holds_below (Flds.own_holds of) haa)
          have HZ10 := Lib.hid haa.size
          have HX10 := Lib.hid (Cur.box4_new wa (.string ⟨m.toArray⟩) (.string ⟨h.toArray⟩) (.string ⟨tt.toArray⟩) v 26)
          obtain ⟨av, cv, rfl, _⟩ := Flds.shape_of of
          obtain ⟨ky, hz, hkz⟩ : ∃ ky hz, Nt.keyp m h tt lf = (ky, hz) := ⟨_, _, rfl⟩
          obtain ⟨t2, z2, ht2⟩ : ∃ t2 z2, Nt.ntar tt = (t2, z2) := ⟨_, _, rfl⟩
          have htl2 : t2.length ≤ 84 := by have h9 := Nt.ntar_len tt; rw [ht2] at h9; dsimp only at h9; omega
          obtain ⟨ky2, hz2, hkz2⟩ : ∃ ky2 hz2, Nt.keyp m h t2 lf = (ky2, hz2) := ⟨_, _, rfl⟩
          have HEQ : Hid (hz = true → hz2 = true ∧ ky2 = ky) := Lib.hid (fun e => by
            rw [e] at hkz
            have h9 := key_again hkz
            rw [ht2] at h9
            dsimp only at h9
            rw [hkz2] at h9
            cases h9; exact ⟨rfl, rfl⟩)
          have HK1 := Lib.hid (key_i m h tt _ _ lf ky hz (wa.alloc (.cells #[.string ⟨m.toArray⟩, .string ⟨h.toArray⟩, .string ⟨tt.toArray⟩, .slice av lf.length cv] 26)) HF10.out HZ10.out (by omega) (by omega) (by omega) (by omega) (HER.out _ B10.out).1 (HER.out _ B10.out).2 hkz)
          have HN9 := Lib.hid (fun W (hb : Below w.heap.size w W) => nt_i tt t2 z2 W (by omega) (HER.out _ hb).1 (HER.out _ hb).2 ht2)
          have HK2 := Lib.hid (fun W (hb : Below w.heap.size w W) (hf : Flds.Holds W wa.heap.size (.slice av lf.length cv) lf) (hs : wa.heap.size ≤ W.heap.size) => key_i m h t2 _ _ lf ky2 hz2 W hf hs (by omega) (by omega) (by omega) (by omega) (HER.out _ hb).1 (HER.out _ hb).2 hkz2)
          obtain ⟨⟨q0, q1, q2, q3⟩, _⟩ := Cur.box4 HX10.out
          clear haa ba of hfw hkz ht2 hkz2 B9 HKD
          go_wp2_with (fail)
          go_at_call 19
          refine HK1.out.mono ?_
          rintro e wb ⟨rfl, bb⟩
          clear q0 q1 q2 q3
          have HX11 := Lib.hid (Cur.blk_below HX10.out bb)
          obtain ⟨⟨q0, q1, q2, q3⟩, _⟩ := Cur.box4 HX11.out
          have hab := (Below.refl wb.heap.size wb).alloc (Nat.le_refl _) (.cells #[.string ⟨m.toArray⟩, .string ⟨h.toArray⟩, .string ⟨tt.toArray⟩, .slice av lf.length cv] 26)
          have B11 := Lib.hid (Base.then_below B10.out (Base.then_below bb hab))
          have HF11 := Lib.hid (Flds.holds_below HF10.out ((Base.then_below bb hab).mono HZ10.out))
          have HZ11 := Lib.hid (Nat.le_trans HZ10.out (Base.then_below bb hab).size)
          have HY11 := Lib.hid (Cur.box4_new wb (.string ⟨m.toArray⟩) (.string ⟨h.toArray⟩) (.string ⟨tt.toArray⟩) (.slice av lf.length cv) 26)
          obtain ⟨⟨p0, p1, p2, p3⟩, _⟩ := Cur.box4 (Cur.blk_below HX11.out hab)
          have HN11 := Lib.hid (HN9.out _ B11.out)
          have hwab : wa.heap.size < wb.heap.size := Cur.lt_of_block HX11.out
          clear bb hab B10 HF10 HZ10 HX10 HX11 HK1 HN9
          go_wp2_with (fail)
          go_at_call 14
          refine HN11.out.mono ?_
          rintro e wc ⟨rfl, bc⟩
          clear q0 q1 q2 q3 p0 p1 p2 p3
          obtain ⟨⟨q0, q1, q2, q3⟩, ⟨f0, f1, f2, f3⟩⟩ := Cur.box4 (Cur.blk_below HY11.out bc)
          have HB12 := Lib.hid (Base.then_below B11.out bc)
          have hcz : w.heap.size ≤ wb.heap.size := by omega
          have B12 := Lib.hid (Below.setCell HB12.out (p := ⟨wb.heap.size, 2, none⟩) hcz (.string ⟨t2.toArray⟩))
          have HF12 := Lib.hid (Flds.holds_below (Flds.holds_below HF11.out (bc.mono HZ11.out)) (Below.setCell (Below.refl wa.heap.size wc) (p := ⟨wb.heap.size, 2, none⟩) (show wa.heap.size ≤ wb.heap.size by omega) (.string ⟨t2.toArray⟩)))
          have hz12 : wa.heap.size ≤ (wc.setCell ⟨wb.heap.size, 2, none⟩ (.string ⟨t2.toArray⟩)).heap.size := by have h9 := bc.size; have h8 := HZ11.out; show wa.heap.size ≤ (wc.heap.modify _ _).size; rw [Array.size_modify]; omega
          have HK12 := Lib.hid (HK2.out _ B12.out HF12.out hz12)
          clear bc B11 HB12 HF11 HZ11 HY11 HN11 HK2 HF12 hz12 hcz hwab
          go_wp2_with (fail)
          go_at_call 19
          refine HK12.out.mono ?_
          rintro e wd ⟨rfl, bd⟩
          have B13 := Lib.hid (Base.then_below B12.out bd)
          clear bd B12 HK12 q0 q1 q2 q3 f0 f1 f2 f3
          cases hz with
          | false =>
            go_wp2
            go_ret
            exact ⟨rfl, B13.out⟩
          | true =>
            obtain ⟨e1, e2⟩ := HEQ.out rfl
            subst e1
            subst e2
            go_wp2
            go_ret
            exact ⟨by simp, B13.out⟩)
      rcases hc : ((sq[k].toNat : Int) == 38) with _ | _
      · have HC : Hid (sq[k] ≠ 38) := Lib.hid (by intro h; rw [h] at hc; revert hc; decide)
        have hc2 : ((sq[k].toNat : Int) != 38) = true := by rw [bne, hc]; rfl
        go_wp2
        go_roundw
        case rel => exact ⟨k + 1, by omega, by go_num, Lib.hid (fun j hj h => by
          rcases Nat.lt_or_ge j k with h' | h'
          · exact HN.out j hj h'
          · have : j = k := by omega
            subst this; exact HC.out), by first | rfl | trivial | simp⟩
        case measure => simp [intOf]; omega
      have HC : Hid (sq[k] = 38) := Lib.hid (UInt8.toNat_inj.1 (by have := beq_iff_eq.1 hc; simp; omega))
      have hc2 : ((sq[k].toNat : Int) != 38) = false := by rw [bne, hc]; rfl
      have hki : (k : Int) < (sq.size : Int) := by omega
      cases so with
      | false =>
        have B9 := B6
        clear HN HCQ
        have HKD := Lib.hid (Cur.draw_ko _ _ _ (Cur.bytes_below HBY.out B9.out) B9.out.size)
        go_wp2_with (fail)
        go_at_call 18
        refine HKD.out.mono ?_
        rintro e wa ⟨m, h, tt, v, lf, rfl, ⟨hm, hh, ht, hfw⟩, of, ba⟩
        have hft := Cur.few_total hfw
        have hwa := Nat.le_trans B9.out.size ba.size
        have haa := (Below.refl wa.heap.size wa).alloc (Nat.le_refl _) (.cells #[.string ⟨m.toArray⟩, .string ⟨h.toArray⟩, .string ⟨tt.toArray⟩, v] 26)
        have B10 := Lib.hid (Base.then_below B9.out (Base.then_below ba haa))
        have HF10 := Lib.hid (Flds.holds_below (Flds.own_holds of) haa)
        have HZ10 := Lib.hid haa.size
        have HX10 := Lib.hid (Cur.box4_new wa (.string ⟨m.toArray⟩) (.string ⟨h.toArray⟩) (.string ⟨tt.toArray⟩) v 26)
        obtain ⟨av, cv, rfl, _⟩ := Flds.shape_of of
        obtain ⟨ky, hz, hkz⟩ : ∃ ky hz, Nt.keyp m h tt lf = (ky, hz) := ⟨_, _, rfl⟩
        obtain ⟨t2, z2, ht2⟩ : ∃ t2 z2, Nt.ntar tt = (t2, z2) := ⟨_, _, rfl⟩
        have htl2 : t2.length ≤ 84 := by have h9 := Nt.ntar_len tt; rw [ht2] at h9; dsimp only at h9; omega
        obtain ⟨ky2, hz2, hkz2⟩ : ∃ ky2 hz2, Nt.keyp m h t2 lf = (ky2, hz2) := ⟨_, _, rfl⟩
        have HEQ : Hid (hz = true → hz2 = true ∧ ky2 = ky) := Lib.hid (fun e => by
          rw [e] at hkz
          have h9 := key_again hkz
          rw [ht2] at h9
          dsimp only at h9
          rw [hkz2] at h9
          cases h9; exact ⟨rfl, rfl⟩)
        have HK1 := Lib.hid (key_i m h tt _ _ lf ky hz (wa.alloc (.cells #[.string ⟨m.toArray⟩, .string ⟨h.toArray⟩, .string ⟨tt.toArray⟩, .slice av lf.length cv] 26)) HF10.out HZ10.out (by omega) (by omega) (by omega) (by omega) (HER.out _ B10.out).1 (HER.out _ B10.out).2 hkz)
        have HN9 := Lib.hid (fun W (hb : Below w.heap.size w W) => nt_i tt t2 z2 W (by omega) (HER.out _ hb).1 (HER.out _ hb).2 ht2)
        have HK2 := Lib.hid (fun W (hb : Below w.heap.size w W) (hf : Flds.Holds W wa.heap.size (.slice av lf.length cv) lf) (hs : wa.heap.size ≤ W.heap.size) => key_i m h t2 _ _ lf ky2 hz2 W hf hs (by omega) (by omega) (by omega) (by omega) (HER.out _ hb).1 (HER.out _ hb).2 hkz2)
        obtain ⟨⟨q0, q1, q2, q3⟩, _⟩ := Cur.box4 HX10.out
        clear haa ba of hfw hkz ht2 hkz2 B9 HKD
        go_wp2_with (fail)
        go_at_call 19
        refine HK1.out.mono ?_
        rintro e wb ⟨rfl, bb⟩
        clear q0 q1 q2 q3
        have HX11 := Lib.hid (Cur.blk_below HX10.out bb)
        obtain ⟨⟨q0, q1, q2, q3⟩, _⟩ := Cur.box4 HX11.out
        have hab := (Below.refl wb.heap.size wb).alloc (Nat.le_refl _) (.cells #[.string ⟨m.toArray⟩, .string ⟨h.toArray⟩, .string ⟨tt.toArray⟩, .slice av lf.length cv] 26)
        have B11 := Lib.hid (Base.then_below B10.out (Base.then_below bb hab))
        have HF11 := Lib.hid (Flds.holds_below HF10.out ((Base.then_below bb hab).mono HZ10.out))
        have HZ11 := Lib.hid (Nat.le_trans HZ10.out (Base.then_below bb hab).size)
        have HY11 := Lib.hid (Cur.box4_new wb (.string ⟨m.toArray⟩) (.string ⟨h.toArray⟩) (.string ⟨tt.toArray⟩) (.slice av lf.length cv) 26)
        obtain ⟨⟨p0, p1, p2, p3⟩, _⟩ := Cur.box4 (Cur.blk_below HX11.out hab)
        have HN11 := Lib.hid (HN9.out _ B11.out)
        have hwab : wa.heap.size < wb.heap.size := Cur.lt_of_block HX11.out
        clear bb hab B10 HF10 HZ10 HX10 HX11 HK1 HN9
        go_wp2_with (fail)
        go_at_call 14
        refine HN11.out.mono ?_
        rintro e wc ⟨rfl, bc⟩
        clear q0 q1 q2 q3 p0 p1 p2 p3
        obtain ⟨⟨q0, q1, q2, q3⟩, ⟨f0, f1, f2, f3⟩⟩ := Cur.box4 (Cur.blk_below HY11.out bc)
        have HB12 := Lib.hid (Base.then_below B11.out bc)
        have hcz : w.heap.size ≤ wb.heap.size := by omega
        have B12 := Lib.hid (Below.setCell HB12.out (p := ⟨wb.heap.size, 2, none⟩) hcz (.string ⟨t2.toArray⟩))
        have HF12 := Lib.hid (Flds.holds_below (Flds.holds_below HF11.out (bc.mono HZ11.out)) (Below.setCell (Below.refl wa.heap.size wc) (p := ⟨wb.heap.size, 2, none⟩) (show wa.heap.size ≤ wb.heap.size by omega) (.string ⟨t2.toArray⟩)))
        have hz12 : wa.heap.size ≤ (wc.setCell ⟨wb.heap.size, 2, none⟩ (.string ⟨t2.toArray⟩)).heap.size := by have h9 := bc.size; have h8 := HZ11.out; show wa.heap.size ≤ (wc.heap.modify _ _).size; rw [Array.size_modify]; omega
        have HK12 := Lib.hid (HK2.out _ B12.out HF12.out hz12)
        clear bc B11 HB12 HF11 HZ11 HY11 HN11 HK2 HF12 hz12 hcz hwab
        go_wp2_with (fail)
        go_at_call 19
        refine HK12.out.mono ?_
        rintro e wd ⟨rfl, bd⟩
        have B13 := Lib.hid (Base.then_below B12.out bd)
        clear bd B12 HK12 q0 q1 q2 q3 f0 f1 f2 f3
        cases hz with
        | false =>
          go_wp2
          go_ret
          exact ⟨rfl, B13.out⟩
        | true =>
          obtain ⟨e1, e2⟩ := HEQ.out rfl
          subst e1
          subst e2
          go_wp2
          go_ret
          exact ⟨by simp, B13.out⟩
      | true =>
        obtain ⟨hse, hpf⟩ := HCQ.out rfl
        have hdrop : qu.drop k = 38 :: qu.drop (k + 1) := by
          have h9 := Tx.drop_cons sq k hlt
          rw [HSQ.out, HC.out] at h9
          exact h9
        have hqs : qu = qu.take k ++ 38 :: qu.drop (k + 1) := by rw [← hdrop, List.take_append_drop]
        have hturn := Nt.ntar_turn (p := pa) (a := qu.take k) (b := qu.drop (k + 1)) hpf
        rw [← hqs, ← hse, HNT.out] at hturn
        have hxl : (pa ++ 63 :: (qu.drop (k + 1) ++ 38 :: qu.take k)).length ≤ 200 := by simp only [List.length_append, List.length_cons, List.length_drop, List.length_take]; omega
        have HNN := Lib.hid (fun W (hb : Below w.heap.size w W) => nt_i _ _ _ W (by omega) (HER.out _ hb).1 (HER.out _ hb).2 hturn)
        have ex1 : (sq.extract (k + 1) sq.size).data.toList = qu.drop (k + 1) := by
          rw [Tx.ext_eq, HSQ.out]; simp only []
          exact List.take_of_length_le (by rw [List.length_drop, HQZ.out]; omega)
        have ex2 : (sq.extract 0 k).data.toList = qu.take k := by rw [Tx.ext_eq, HSQ.out]; simp
        have a1 := Tx.addtwo pa [63] (by simp only [List.length_cons, List.length_nil]; omega)
        have a2 := addb ⟨(pa ++ [63]).toArray⟩ (sq.extract (k + 1) sq.size) (pa ++ 63 :: qu.drop (k + 1)) (by rw [ex1]; simp) (by simp only [List.length_append, List.length_cons, List.length_drop]; omega)
        have a3 := Tx.addtwo (pa ++ 63 :: qu.drop (k + 1)) [38] (by simp only [List.length_append, List.length_cons, List.length_drop, List.length_nil]; omega)
        have a4 := addb ⟨((pa ++ 63 :: qu.drop (k + 1)) ++ [38]).toArray⟩ (sq.extract 0 k) (pa ++ 63 :: (qu.drop (k + 1) ++ 38 :: qu.take k)) (by rw [ex2]; simp) (by omega)
        generalize pa ++ 63 :: (qu.drop (k + 1) ++ 38 :: qu.take k) = l4 at a4 HNN
        generalize (pa ++ 63 :: qu.drop (k + 1)) ++ [38] = l3 at a3 a4
        generalize pa ++ 63 :: qu.drop (k + 1) = l2 at a2 a3
        generalize pa ++ [63] = l1 at a1 a2
        have HSD : Hid (GS wr wr.drew) := Lib.hid (Rec.below_drew (Below.refl _ _))
        have SK : Hid (∀ v0 v1 : World, GS wr v0 → Below v0.heap.size v0 v1 → GS wr v1) := Lib.hid (fun _ _ h hb => gs_call h hb)
        have HCN := Lib.hid (fun n : RegS.In (GS wr) => HNN.out n.w (Base.then_below B6.out n.h))
        have hk1 : (k : Int) + 1 ≤ (sq.size : Int) := by omega
        have hw1 : IntKind.i64.wrap ((k : Int) + 1) = (k : Int) + 1 := by rw [IntWalk.i64_left]; unfold RowKit.wrap64; omega
        clear hse hpf hdrop hqs hturn hxl HNN ex1 ex2 HN HCQ HC
        go_wp2
        refine RegS.region (GS wr) (by kernel_rfl) (by kernel_rfl) HSD.out ?_
        haveI : Nonempty (RegS.In (GS wr)) := ⟨⟨_, HSD.out⟩⟩
        repeat (first | go_big_quiet_step ((go_at_call 14; with_reducible exact RegS.call (HCN.out _) (fun e w' he => ⟨he.1, SK.out _ _ (RegS.In.h _) he.2⟩))) | quiet_step ((go_at_call 14; with_reducible exact RegS.call (HCN.out _) (fun e w' he => ⟨he.1, SK.out _ _ (RegS.In.h _) he.2⟩))))
        refine wpQuiet_nil ?_
        intro wz hw'
        obtain ⟨⟨wq, hSq⟩, hw''⟩ := hw'
        have B9 : Hid (Below w.heap.size w wz) := Lib.hid (by rw [hw'']; exact Base.then_below B6.out hSq)
        clear hSq hw'' wq a1 a2 a3 a4 HSD SK HCN B6
        have HKD := Lib.hid (Cur.draw_ko _ _ _ (Cur.bytes_below HBY.out B9.out) B9.out.size)
        go_wp2_with (fail)
        go_at_call 18
        refine HKD.out.mono ?_
        rintro e wa ⟨m, h, tt, v, lf, rfl, ⟨hm, hh, ht, hfw⟩, of, ba⟩
        have hft := Cur.few_total hfw
        have hwa := Nat.le_trans B9.out.size ba.size
        have haa := (Below.refl wa.heap.size wa).alloc (Nat.le_refl _) (.cells #[.string ⟨m.toArray⟩, .string ⟨h.toArray⟩, .string ⟨tt.toArray⟩, v] 26)
        have B10 := Lib.hid (Base.then_below B9.out (Base.then_below ba haa))
        have HF10 := Lib.hid (Flds.holds_below (Flds.own_holds of) haa)
        have HZ10 := Lib.hid haa.size
        have HX10 := Lib.hid (Cur.box4_new wa (.string ⟨m.toArray⟩) (.string ⟨h.toArray⟩) (.string ⟨tt.toArray⟩) v 26)
        obtain ⟨av, cv, rfl, _⟩ := Flds.shape_of of
        obtain ⟨ky, hz, hkz⟩ : ∃ ky hz, Nt.keyp m h tt lf = (ky, hz) := ⟨_, _, rfl⟩
        obtain ⟨t2, z2, ht2⟩ : ∃ t2 z2, Nt.ntar tt = (t2, z2) := ⟨_, _, rfl⟩
        have htl2 : t2.length ≤ 84 := by have h9 := Nt.ntar_len tt; rw [ht2] at h9; dsimp only at h9; omega
        obtain ⟨ky2, hz2, hkz2⟩ : ∃ ky2 hz2, Nt.keyp m h t2 lf = (ky2, hz2) := ⟨_, _, rfl⟩
        have HEQ : Hid (hz = true → hz2 = true ∧ ky2 = ky) := Lib.hid (fun e => by
          rw [e] at hkz
          have h9 := key_again hkz
          rw [ht2] at h9
          dsimp only at h9
          rw [hkz2] at h9
          cases h9; exact ⟨rfl, rfl⟩)
        have HK1 := Lib.hid (key_i m h tt _ _ lf ky hz (wa.alloc (.cells #[.string ⟨m.toArray⟩, .string ⟨h.toArray⟩, .string ⟨tt.toArray⟩, .slice av lf.length cv] 26)) HF10.out HZ10.out (by omega) (by omega) (by omega) (by omega) (HER.out _ B10.out).1 (HER.out _ B10.out).2 hkz)
        have HN9 := Lib.hid (fun W (hb : Below w.heap.size w W) => nt_i tt t2 z2 W (by omega) (HER.out _ hb).1 (HER.out _ hb).2 ht2)
        have HK2 := Lib.hid (fun W (hb : Below w.heap.size w W) (hf : Flds.Holds W wa.heap.size (.slice av lf.length cv) lf) (hs : wa.heap.size ≤ W.heap.size) => key_i m h t2 _ _ lf ky2 hz2 W hf hs (by omega) (by omega) (by omega) (by omega) (HER.out _ hb).1 (HER.out _ hb).2 hkz2)
        obtain ⟨⟨q0, q1, q2, q3⟩, _⟩ := Cur.box4 HX10.out
        clear haa ba of hfw hkz ht2 hkz2 B9 HKD
        go_wp2_with (fail)
        go_at_call 19
        refine HK1.out.mono ?_
        rintro e wb ⟨rfl, bb⟩
        clear q0 q1 q2 q3
        have HX11 := Lib.hid (Cur.blk_below HX10.out bb)
        obtain ⟨⟨q0, q1, q2, q3⟩, _⟩ := Cur.box4 HX11.out
        have hab := (Below.refl wb.heap.size wb).alloc (Nat.le_refl _) (.cells #[.string ⟨m.toArray⟩, .string ⟨h.toArray⟩, .string ⟨tt.toArray⟩, .slice av lf.length cv] 26)
        have B11 := Lib.hid (Base.then_below B10.out (Base.then_below bb hab))
        have HF11 := Lib.hid (Flds.holds_below HF10.out ((Base.then_below bb hab).mono HZ10.out))
        have HZ11 := Lib.hid (Nat.le_trans HZ10.out (Base.then_below bb hab).size)
        have HY11 := Lib.hid (Cur.box4_new wb (.string ⟨m.toArray⟩) (.string ⟨h.toArray⟩) (.string ⟨tt.toArray⟩) (.slice av lf.length cv) 26)
        obtain ⟨⟨p0, p1, p2, p3⟩, _⟩ := Cur.box4 (Cur.blk_below HX11.out hab)
        have HN11 := Lib.hid (HN9.out _ B11.out)
        have hwab : wa.heap.size < wb.heap.size := Cur.lt_of_block HX11.out
        clear bb hab B10 HF10 HZ10 HX10 HX11 HK1 HN9
        go_wp2_with (fail)
        go_at_call 14
        refine HN11.out.mono ?_
        rintro e wc ⟨rfl, bc⟩
        clear q0 q1 q2 q3 p0 p1 p2 p3
        obtain ⟨⟨q0, q1, q2, q3⟩, ⟨f0, f1, f2, f3⟩⟩ := Cur.box4 (Cur.blk_below HY11.out bc)
        have HB12 := Lib.hid (Base.then_below B11.out bc)
        have hcz : w.heap.size ≤ wb.heap.size := by omega
        have B12 := Lib.hid (Below.setCell HB12.out (p := ⟨wb.heap.size, 2, none⟩) hcz (.string ⟨t2.toArray⟩))
        have HF12 := Lib.hid (Flds.holds_below (Flds.holds_below HF11.out (bc.mono HZ11.out)) (Below.setCell (Below.refl wa.heap.size wc) (p := ⟨wb.heap.size, 2, none⟩) (show wa.heap.size ≤ wb.heap.size by omega) (.string ⟨t2.toArray⟩)))
        have hz12 : wa.heap.size ≤ (wc.setCell ⟨wb.heap.size, 2, none⟩ (.string ⟨t2.toArray⟩)).heap.size := by have h9 := bc.size; have h8 := HZ11.out; show wa.heap.size ≤ (wc.heap.modify _ _).size; rw [Array.size_modify]; omega
        have HK12 := Lib.hid (HK2.out _ B12.out HF12.out hz12)
        clear bc B11 HB12 HF11 HZ11 HY11 HN11 HK2 HF12 hz12 hcz hwab
        go_wp2_with (fail)
        go_at_call 19
        refine HK12.out.mono ?_
        rintro e wd ⟨rfl, bd⟩
        have B13 := Lib.hid (Base.then_below B12.out bd)
        clear bd B12 HK12 q0 q1 q2 q3 f0 f1 f2 f3
        cases hz with
        | false =>
          go_wp2
          go_ret
          exact ⟨rfl, B13.out⟩
        | true =>
          obtain ⟨e1, e2⟩ := HEQ.out rfl
          subst e1
          subst e2
          go_wp2
          go_ret
          exact ⟨by simp, B13.out⟩
end Go.Proofs.YtegaakgmfphcaaaGreatDoor.fnKeys
