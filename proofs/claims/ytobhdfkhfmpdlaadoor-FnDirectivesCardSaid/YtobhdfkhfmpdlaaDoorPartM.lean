/-
  CONTRACTS AND PLAIN FACTS, several texts in one; each says in its own words what it proves.
-/
import Derived.Test.YtobhdfkhfmpdlaaDoorPartE
import Derived.Test.YtobhdfkhfmpdlaaDoorPartI
import Derived.Test.YtobhdfkhfmpdlaaDoorPartJ
import Derived.Test.YtobhdfkhfmpdlaaDoorPartK
import Derived.Test.YtobhdfkhfmpdlaaDoorPartL
set_option linter.unusedSimpArgs false
set_option linter.unusedVariables false

/-
  THE WALK of the law of chapter 6.
-/
namespace Go.Proofs.YtobhdfkhfmpdlaaDoor.fnDirectives
open Go Go.RowKit
set_option linter.unusedVariables false
set_option maxRecDepth 1000000

def GrowS (w wr w' : World) : Prop := Below wr.heap.size wr w' ∧ Below w.heap.size w w'
theorem grow_call {w wr u w' : World} (h : GrowS w wr u) (hb : Below u.heap.size u w') : GrowS w wr w' := ⟨Base.then_below h.1 hb, Base.then_below h.2 hb⟩
theorem grow_old {w wr u : World} (h : GrowS w wr u) {b o : Nat} {x : Value} (hc : wr.cell? ⟨b, o, none⟩ = some x) : u.cell? ⟨b, o, none⟩ = some x := (h.1.cell (p := ⟨b, o, none⟩) (Rec.lt_of_cell hc)).trans hc

set_option maxHeartbeats 8000000 in
theorem walk (b0 : Option Addr) (l0 c0 : Nat) (w0 : l0 ≤ maxLen) (w : World) (y0 : l0 ≤ 1048576 → Cur.Bytes w w.heap.size (.slice b0 l0 c0)) (hv : Dir.Errs w) :
    Calls Tryd.prog 3 #[.slice b0 l0 c0] w fun e w' => e = .returned (.bool true) ∧ Below w.heap.size w w' := by
  clear w0
  have HV := Lib.hid hv
  clear hv
  by_cases hbig : 1048576 < (l0 : Int)
  · go_enter Tryd.func3, Tryd.ntmps3
    go_wp2_with (go_at_call 5; refine (Cur.big_yes _ _ _ _ hbig).mono ?_; rintro e w' ⟨rfl, rfl⟩)
    go_ret
    exact ⟨rfl, Below.refl _ _⟩
  obtain ⟨κ, hκ⟩ := Cf.bytes_some (y0 (by omega))
  have HBY := Lib.hid hκ
  have HD := Lib.hid (fun (W : World) (hy : Cf.BytesS W w.heap.size (.slice b0 l0 c0) κ) (hB : w.heap.size ≤ W.heap.size) => Cf.draw6_fn w.heap.size (.slice b0 l0 c0) κ W hy hB)
  have hsl := Cf.draw6F_len κ
  generalize Cf.draw6F κ = s at HD hsl
  clear y0 hκ
  have HP1 := Lib.hid (fun W (hv : Dir.Errs W) => Dir.impl_parse s W (by omega) hv)
  have HP2 := Lib.hid (fun W => Dir.spec_parse s W (by omega))
  have HBK := Lib.hid (Dir.parse_back s)
  have HGD := Lib.hid (Dir.parse_good s)
  have htot : Dir.total (Dir.dparse s) ≤ 25878 := by
    refine Nat.le_trans (Dir.parse_total s) ?_
    exact Nat.le_trans (Nat.mul_le_mul (show s.length + 1 ≤ 114 by omega) (show 2 * s.length + 1 ≤ 227 by omega)) (by decide)
  have htl := Dir.fmt_len (Dir.dparse s)
  unfold Dir.Parsed at HP1
  unfold Dir.ParsedS at HP2
  generalize Dir.dparse s = L at HP1 HP2 HBK HGD htot htl
  have hLL : L.length ≤ 25878 := Nat.le_trans (Dir.len_le_total L) htot
  have HF := Lib.hid (fun (W : World) (v : Value) (h : Dir.Holds W W.heap.size v L) => Dir.impl_fmt v W.heap.size L W h (Nat.le_refl _) (by omega))
  unfold Dir.Txt at HF
  generalize Dir.fmt L = t at HF HBK htl
  have HP3 := Lib.hid (fun W (hv : Dir.Errs W) => Dir.impl_parse t W (by omega) hv)
  unfold Dir.Parsed at HP3
  rw [HBK.out] at HP3
  have HMX : Hid (∀ d ∈ L, d.1.length ≤ 1048576 ∧ d.2.1.length ≤ 1048576) := Lib.hid (fun d hd => by have := Dir.mem_le hd; omega)
  clear HBK htl htot hsl
  go_enter Tryd.func3, Tryd.ntmps3
  go_wp2_with (fail)
  go_at_call 5
  refine (Cur.big_no _ _ _ _ (by omega)).mono ?_
  rintro e w' ⟨rfl, rfl⟩
  go_wp2_with (fail)
  go_at_call 7
  refine (HD.out _ HBY.out (Nat.le_refl _)).mono ?_
  rintro e w1 ⟨rfl, b1⟩
  have B1 := Lib.hid b1
  clear b1
  go_wp2_with (fail)
  go_at_call 6
  refine (HP1.out _ (Dir.errs_below HV.out B1.out)).mono ?_
  rintro e w2 ⟨v, rfl, ho, b2⟩
  have B2 := Lib.hid (Base.then_below B1.out b2)
  obtain ⟨a, cap, rfl, ha⟩ := Dir.holds_shape (Dir.own_holds ho)
  have HH2 : Hid (Dir.Holds w2 w2.heap.size (.slice a L.length cap) L) := Lib.hid (Dir.own_holds ho)
  have HA := Lib.hid ha
  clear b2 ho ha HP1 B1
  go_wp2_with (fail)
  go_at_call 7
  refine (HD.out _ (Cf.bytesS_below HBY.out B2.out) B2.out.size).mono ?_
  rintro e w3 ⟨rfl, b3⟩
  have B3 := Lib.hid b3
  clear b3 HD HBY
  go_wp2_with (fail)
  go_at_call 8
  refine (HP2.out _).mono ?_
  rintro e w4 ⟨v', rfl, ho', b4⟩
  have B4 := Lib.hid (Base.then_below B3.out b4)
  obtain ⟨a', cap', rfl, _⟩ := Dir.holds_shape (Dir.own_holds ho')
  have HH4 : Hid (Dir.Holds w4 w4.heap.size (.slice a L.length cap) L) := Lib.hid (Dir.holds_more (Dir.holds_below HH2.out B4.out) B4.out.size)
  clear b4 ho' HP2 B3
  go_wp2_with (fail)
  go_at_call 9
  refine (HF.out _ _ HH4.out).mono ?_
  rintro e w5 ⟨rfl, b5⟩
  have B5 := Lib.hid (Base.then_below B4.out b5)
  clear b5 HF HH4 B4
  go_wp2_with (fail)
  go_at_call 6
  refine (HP3.out _ (Dir.errs_below HV.out (B2.out.trans (B5.out.mono B2.out.size)))).mono ?_
  rintro e w6 ⟨v2, rfl, ho2, b6⟩
  have B6 := Lib.hid (Base.then_below B5.out b6)
  have HH6 : Hid (Dir.Holds w6 w6.heap.size (.slice a L.length cap) L) := Lib.hid (Dir.holds_more (Dir.holds_below HH2.out B6.out) B6.out.size)
  obtain ⟨a2, cap2, rfl, ha2⟩ := Dir.holds_shape (Dir.own_holds ho2)
  obtain ⟨a3, cap3, he3, ha3⟩ := Dir.holds_shape HH6.out
  cases he3
  have HA2 := Lib.hid ha2
  have HA3 := Lib.hid ha3
  have HW6 := Lib.hid (B2.out.trans (B6.out.mono B2.out.size))
  clear b6 ho2 ha2 ha3 HP3 B5 HH2 HA B6 B2
  go_wp2
  go_loopw [5] (fun i wr => ∃ k : Nat, k ≤ L.length ∧ i = .int .i64 (k : Int) ∧ Hid (Below w6.heap.size w6 wr)) (fun i _ => L.length - (intOf i).toNat)
  case atStart => exact ⟨0, Nat.zero_le _, rfl, Lib.hid (Below.refl _ _)⟩
  case round =>
    obtain ⟨k, hk, rfl, HG⟩ := hrel
    have HWR := Lib.hid (HW6.out.trans (HG.out.mono HW6.out.size))
    by_cases hlt : k < L.length
    · obtain ⟨b, off, rfl, hbl, hcp, hat⟩ := HA3.out (by omega)
      obtain ⟨b', off', rfl, hbl', hcp', hat'⟩ := HA2.out (by omega)
      obtain ⟨c0, c1, c2⟩ := Dir.at_cells (Dir.at_below hat HG.out hbl) hlt
      obtain ⟨d0, d1, d2⟩ := Dir.at_cells (Dir.at_below hat' HG.out hbl') hlt
      have HHr : Hid (Dir.Holds wr w6.heap.size (.slice (some ⟨b, off, none⟩) L.length cap) L) := Lib.hid (Dir.holds_below HH6.out HG.out)
      obtain ⟨g0, g1, g2⟩ := HGD.out _ (Rec.getD_mem (z := Dir.nov) hlt)
      obtain ⟨m0, m1⟩ := HMX.out _ (Rec.getD_mem (z := Dir.nov) hlt)
      obtain ⟨s0, s1, s2⟩ := Dir.sof_found hlt
      obtain ⟨j, hj, hja⟩ := Dir.found hlt
      have hge : decide (0 ≤ Dir.at1 (L.getD k Dir.nov).1 L) = true := by rw [hja]; simp
      have HHAS : Hid (∀ u : RegS.In (GrowS w wr), Calls Tryd.prog 10 #[.slice (some ⟨b, off, none⟩) L.length cap, .string ⟨(L.getD k Dir.nov).1.toArray⟩] u.w (fun e w' => e = .returned (.bool true) ∧ Below u.w.heap.size u.w w')) := Lib.hid (fun u => by
        have h := Dir.impl_has _ w6.heap.size L (L.getD k Dir.nov).1 u.w (Dir.holds_below HHr.out (u.h.1.mono HG.out.size)) (by omega)
        unfold Dir.HasEnd at h
        rw [hge] at h
        exact h)
      have HLOW : Hid (∀ u : RegS.In (GrowS w wr), Calls Tryd.prog 11 #[.string ⟨(L.getD k Dir.nov).1.toArray⟩] u.w (fun e w' => e = .returned (.string ⟨(L.getD k Dir.nov).1.toArray⟩) ∧ Below u.w.heap.size u.w w')) := Lib.hid (fun u => by
        have h := Dir.low_i (L.getD k Dir.nov).1 m0 u.w
        rw [g1] at h
        exact h)
      have HSEC : Hid (∀ u : World, GrowS w wr u → Calls Tryd.prog 12 #[.slice (some ⟨b, off, none⟩) L.length cap, .string ⟨(L.getD k Dir.nov).1.toArray⟩] u (fun e w' => ∃ n : Int, 0 ≤ n ∧ n ≤ 2147483648 ∧ e = .returned (.tuple #[.int .i64 n, .bool true]) ∧ Below u.heap.size u w')) := Lib.hid (fun u hu => by
        refine (Dir.impl_sec _ w6.heap.size L (L.getD k Dir.nov).1 u (Dir.holds_below HHr.out (hu.1.mono HG.out.size)) (Nat.le_trans HG.out.size hu.1.size) (by omega) (fun d hd => (HMX.out d hd).2)).mono ?_
        rintro e w' ⟨he, hb⟩
        rw [s0] at he
        exact ⟨_, s1, s2, he, hb⟩)
      clear g0 g1 m0 m1 s0 s1 s2 hge hj hja hat hat'
      generalize L.getD k Dir.nov = d at c0 c1 c2 d0 d1 d2 g2 HHAS HLOW HSEC
      obtain ⟨nm, vl, q⟩ := d
      dsimp only at c0 c1 c2 d0 d1 d2 g2 HHAS HLOW HSEC
      have HSD : Hid (GrowS w wr wr.drew) := Lib.hid ⟨Rec.below_drew (Below.refl _ _), Rec.below_drew HWR.out⟩
      have SK : Hid (∀ u w', GrowS w wr u → Below u.heap.size u w' → GrowS w wr w') := Lib.hid (fun u w' h hb => grow_call h hb)
      have e0 : ∀ u : RegS.In (GrowS w wr), u.w.cell? ⟨b, off + k * 3, none⟩ = some (.string ⟨nm.toArray⟩) := fun u => grow_old u.h c0
      have e1 : ∀ u : RegS.In (GrowS w wr), u.w.cell? ⟨b, off + k * 3 + 1, none⟩ = some (.string ⟨vl.toArray⟩) := fun u => grow_old u.h c1
      have e2 : ∀ u : RegS.In (GrowS w wr), u.w.cell? ⟨b, off + k * 3 + 2, none⟩ = some (.bool q) := fun u => grow_old u.h c2
      have f0 : ∀ u : RegS.In (GrowS w wr), u.w.cell? ⟨b', off' + k * 3, none⟩ = some (.string ⟨nm.toArray⟩) := fun u => grow_old u.h d0
      have f1 : ∀ u : RegS.In (GrowS w wr), u.w.cell? ⟨b', off' + k * 3 + 1, none⟩ = some (.string ⟨vl.toArray⟩) := fun u => grow_old u.h d1
      have f2 : ∀ u : RegS.In (GrowS w wr), u.w.cell? ⟨b', off' + k * 3 + 2, none⟩ = some (.bool q) := fun u => grow_old u.h d2
      have hki : (k : Int) < (L.length : Int) := by omega
      clear c1 c2 d0 d1 d2
      cases q with
      | true =>
        clear g2
        go_wp2
        refine RegS.region (GrowS w wr) (by kernel_rfl) (by kernel_rfl) HSD.out ?_
        haveI : Nonempty (RegS.In (GrowS w wr)) := ⟨⟨_, HSD.out⟩⟩
        repeat (first | go_big_quiet_step (first | (go_at_call 10; with_reducible exact RegS.call (HHAS.out _) (fun e w' he => ⟨he.1, SK.out _ _ (RegS.In.h _) he.2⟩)) | (go_at_call 11; with_reducible exact RegS.call (HLOW.out _) (fun e w' he => ⟨he.1, SK.out _ _ (RegS.In.h _) he.2⟩))) | quiet_step (fail))
        refine wpQuiet_nil ?_
        intro wz hw'
        obtain ⟨⟨wq, hSq⟩, hw''⟩ := hw'
        have hS : GrowS w wr wz := by rw [hw'']; exact hSq
        clear hw'' hSq
        have HS := Lib.hid hS
        have z0 : wz.cell? ⟨b, off + k * 3, none⟩ = some (.string ⟨nm.toArray⟩) := grow_old hS c0
        clear hS e0 e1 e2 f0 f1 f2 c0 HHAS HLOW
        go_wp2_with (fail)
        go_at_call 12
        refine (HSEC.out _ HS.out).mono ?_
        rintro e w8 ⟨n, hn0, hn1, rfl, b8⟩
        have HG8 := Lib.hid (Base.then_below HG.out (SK.out _ _ HS.out b8).1)
        have hn2 : ¬ n < 0 := by omega
        have hn3 : ¬ 2147483648 < n := by omega
        clear b8 z0 HSEC
        go_wp2
        go_roundw
        case rel => exact ⟨k + 1, by omega, by go_num, HG8⟩
        case measure => simp [intOf]; omega
      | false =>
        obtain rfl : vl = [] := g2 rfl
        clear g2
        go_wp2
        refine RegS.region (GrowS w wr) (by kernel_rfl) (by kernel_rfl) HSD.out ?_
        haveI : Nonempty (RegS.In (GrowS w wr)) := ⟨⟨_, HSD.out⟩⟩
        repeat (first | go_big_quiet_step (first | (go_at_call 10; with_reducible exact RegS.call (HHAS.out _) (fun e w' he => ⟨he.1, SK.out _ _ (RegS.In.h _) he.2⟩)) | (go_at_call 11; with_reducible exact RegS.call (HLOW.out _) (fun e w' he => ⟨he.1, SK.out _ _ (RegS.In.h _) he.2⟩))) | quiet_step (fail))
        refine wpQuiet_nil ?_
        intro wz hw'
        obtain ⟨⟨wq, hSq⟩, hw''⟩ := hw'
        have hS : GrowS w wr wz := by rw [hw'']; exact hSq
        clear hw'' hSq
        have HS := Lib.hid hS
        have z0 : wz.cell? ⟨b, off + k * 3, none⟩ = some (.string ⟨nm.toArray⟩) := grow_old hS c0
        clear hS e0 e1 e2 f0 f1 f2 c0 HHAS HLOW
        go_wp2_with (fail)
        go_at_call 12
        refine (HSEC.out _ HS.out).mono ?_
        rintro e w8 ⟨n, hn0, hn1, rfl, b8⟩
        have HG8 := Lib.hid (Base.then_below HG.out (SK.out _ _ HS.out b8).1)
        have hn2 : ¬ n < 0 := by omega
        have hn3 : ¬ 2147483648 < n := by omega
        clear b8 z0 HSEC
        go_wp2
        go_roundw
        case rel => exact ⟨k + 1, by omega, by go_num, HG8⟩
        case measure => simp [intOf]; omega
    · have hki : ¬ (k : Int) < (L.length : Int) := by omega
      go_wp2
      go_ret
      exact ⟨rfl, HWR.out⟩
end Go.Proofs.YtobhdfkhfmpdlaaDoor.fnDirectives
