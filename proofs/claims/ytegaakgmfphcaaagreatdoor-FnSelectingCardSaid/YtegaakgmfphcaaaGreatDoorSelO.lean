/-
  CONTRACTS AND PLAIN FACTS, several texts in one; each says in its own words what it proves.
-/
import Derived.Test.YtegaakgmfphcaaaGreatDoorSelE
import Derived.Test.YtegaakgmfphcaaaGreatDoorSelH
import Derived.Test.YtegaakgmfphcaaaGreatDoorSelJ
import Derived.Test.YtegaakgmfphcaaaGreatDoorSelN
import Derived.Test.YtegaakgmfphcaaaGreatDoorSelG
set_option linter.unusedSimpArgs false
set_option linter.unusedVariables false

/-
  THE WALK of the law of chapter 14.
-/
namespace Go.Proofs.YtegaakgmfphcaaaGreatDoor.fnSelecting
open Go Go.RowKit
set_option linter.unusedVariables false
set_option maxRecDepth 1000000
set_option maxRecDepth 1000000

def alng : List UInt8 := [97, 99, 99, 101, 112, 116, 45, 108, 97, 110, 103, 117, 97, 103, 101]
def lngs : List (List UInt8) := [[100, 101], [101, 110], [102, 114]]
theorem agr_sof (l : List Flds.Fld) (ns : List (List UInt8)) : Sel.agr l (Sel.sof l ns) = true := by
  unfold Sel.agr Sel.sof
  rw [List.all_eq_true]
  intro f hf
  obtain ⟨n, _, rfl⟩ := List.mem_map.1 hf
  simp
theorem vy_any {l : List Flds.Fld} (h : (Vyo.vy l).2 = true) : (Vyo.vy l).1 = [] := by
  unfold Vyo.vy Vyo.vyp at h ⊢
  split at h
  · rename_i hh; rw [if_pos hh]
  · cases h
theorem step_nodup {acc : Onc.L} (s : List UInt8) (h : acc.Nodup) : (Onc.step acc s).Nodup := by
  unfold Onc.step
  split
  · exact h
  · rename_i hh
    rw [List.nodup_append]
    refine ⟨h, by simp, fun a ha b hb e => ?_⟩
    rw [List.mem_singleton] at hb
    subst hb; subst e
    exact hh (by simpa using ha)
theorem once_nodup : ∀ (l acc : Onc.L), acc.Nodup → (l.foldl Onc.step acc).Nodup
  | [], acc, h => h
  | a :: r, acc, h => by rw [List.foldl_cons]; exact once_nodup r _ (step_nodup a h)
theorem vy_apart (l : List Flds.Fld) (i k : Nat) (hk : k < i) (hi : i < (Vyo.vy l).1.length) : (Vyo.vy l).1.getD k [] ≠ (Vyo.vy l).1.getD i [] := by
  have hn : (Vyo.vy l).1.Nodup := by
    unfold Vyo.vy Vyo.vyp
    split
    · simp
    · exact once_nodup _ [] (by simp)
  rw [show (Vyo.vy l).1.getD k [] = (Vyo.vy l).1[k]'(by omega) by simp [List.getD, show k < (Vyo.vy l).1.length by omega], show (Vyo.vy l).1.getD i [] = (Vyo.vy l).1[i] by simp [List.getD, hi]]
  exact List.pairwise_iff_getElem.1 hn k i (by omega) hi hk
theorem vy_len (l : List Flds.Fld) : (Vyo.vy l).1.length ≤ 3 * Flds.total l + 1 := by
  have h1 := Tx.split_count (Flds.got Vyo.varyN l)
  have h2 := Flds.got_len Vyo.varyN l
  unfold Vyo.vy Vyo.vyp
  split
  · simp
  · have h3 := Onc.once_len ((Tx.split (Flds.got Vyo.varyN l)).map Tx.lower)
    rw [List.length_map] at h3
    show (Onc.once _).length ≤ _
    omega
theorem cho_sel (zs : List (List UInt8)) (n : List UInt8) (l : List Flds.Fld) : Qua.cho zs (Sel.selv n l) = Qua.cho zs (Tx.join (Flds.vals n l)) := by
  have h : Qua.pqs (Sel.selv n l) = Qua.pqs (Tx.join (Flds.vals n l)) := by
    unfold Qua.pqs Sel.selv Flds.got
    rw [Tx.split_join]
  unfold Qua.cho
  rw [h]
def GS (wr u : World) : Prop := Below wr.heap.size wr u
theorem gs_call {wr w0 w1 : World} (h : GS wr w0) (hb : Below w0.heap.size w0 w1) : GS wr w1 := Base.then_below h hb
theorem gs_cell {wr u : World} {b o : Nat} {x : Value} (h : GS wr u) (hc : wr.cell? ⟨b, o, none⟩ = some x) : u.cell? ⟨b, o, none⟩ = some x := (Below.cell h (p := ⟨b, o, none⟩) (Rec.lt_of_cell hc)).trans hc
theorem cho_i (vz : Value) (B : Nat) (zs : List (List UInt8)) (s r : List UInt8) (w : World) (hz : Strs.Holds w B vz zs) (hB : B ≤ w.heap.size) (hzl : zs.length ≤ 1048576) (hs : s.length ≤ 1048576) (he : Par.Errs w) (hm : Sh.MxL w) (hr : Qua.cho zs s = r) :
    Calls Tryz.prog 12 #[vz, .string ⟨s.toArray⟩] w fun e w' => e = .returned (.string ⟨r.toArray⟩) ∧ Below w.heap.size w w' := by
  subst hr; exact Qua.impl_cho vz B zs s w hz hB hzl hs he hm
theorem agr_i (m ho t : List UInt8) (v : Value) (B : Nat) (l : List Flds.Fld) (v2 : Value) (B2 : Nat) (ns : List (List UInt8)) (w : World) (h : Flds.Holds w B v l) (hB : B ≤ w.heap.size) (hl : Flds.total l ≤ 1048576) (h2 : Flds.Holds w B2 v2 (Sel.sof l ns)) (hzl : ns.length ≤ 1048576) :
    Calls Tryz.prog 11 #[.agg #[.string ⟨m.toArray⟩, .string ⟨ho.toArray⟩, .string ⟨t.toArray⟩, v], v2] w fun e w' => e = .returned (.bool true) ∧ Below w.heap.size w w' := by
  refine (Sel.impl_agr m ho t v B l v2 B2 _ w h hB hl h2 (by rw [Sel.sof_len]; exact hzl)).mono ?_
  rintro e w' ⟨h1, h3⟩
  rw [agr_sof] at h1
  exact ⟨h1, h3⟩
theorem get_i (v : Value) (B : Nat) (l : List Flds.Fld) (n : List UInt8) (w : World) (h : Flds.Holds w B v l) (hB : B ≤ w.heap.size) (hl : Flds.total l ≤ 1048576) :
    Calls Tryz.prog 10 #[v, .string ⟨n.toArray⟩] w (fun e w' => ∃ z, e = .returned (.tuple #[.string ⟨(Tx.join (Flds.vals n l)).toArray⟩, .bool z]) ∧ Below w.heap.size w w') := by
  refine (Flds.impl_get v B l n w h hB hl).mono ?_
  rintro e w' ⟨h1, h2⟩
  exact ⟨_, h1, h2⟩
theorem lits_hold (w : World) (xs : List (List UInt8)) (h : 0 < xs.length) : Strs.Holds (w.alloc (.cells ((Strs.svs xs).toArray) 9)) (w.heap.size + 1) (.slice (some ⟨w.heap.size, 0, none⟩) xs.length xs.length) xs :=
  Or.inr ⟨h, w.heap.size, 0, xs.length, rfl, Nat.lt_succ_self _, Nat.le_refl _, Cur.lits_str w xs _⟩

set_option maxHeartbeats 16000000 in
theorem walk (b0 : Option Addr) (l0 c0 : Nat) (w0 : l0 ≤ maxLen) (w : World) (y0 : l0 ≤ 1048576 → Cur.Bytes w w.heap.size (.slice b0 l0 c0)) (her : Par.Errs w) (hmx : Sh.MxL w) :
    Calls Tryz.prog 3 #[.slice b0 l0 c0] w fun e w' => e = .returned (.bool true) ∧ Below w.heap.size w w' := by
  clear w0
  by_cases hbig : 1048576 < (l0 : Int)
  · go_enter Tryz.func3, Tryz.ntmps3
    go_wp2_with (go_at_call 5; refine (Cur.big_yes _ _ _ _ hbig).mono ?_; rintro e w' ⟨rfl, rfl⟩)
    go_ret
    exact ⟨rfl, Below.refl _ _⟩
  have HBY := Lib.hid (y0 (by omega))
  have HER := Lib.hid (fun W (hb : Below w.heap.size w W) => And.intro (Par.errs_below her hb) (Sh.mxl_below hmx hb))
  clear y0 her hmx
  go_enter Tryz.func3, Tryz.ntmps3
  go_wp2_with (fail)
  go_at_call 5
  refine (Cur.big_no _ _ _ _ (by omega)).mono ?_
  rintro e w' ⟨rfl, rfl⟩
  go_wp2_with (fail)
  go_at_call 6
  refine (Cur.draw_so _ _ _ HBY.out (Nat.le_refl _)).mono ?_
  rintro e w1 ⟨m, h, t, v, u, l, zs, rfl, ⟨hm, hh, ht, hfw⟩, hzl, of, on, b1⟩
  have hft := Cur.fewn_total hfw
  obtain ⟨av, cv, rfl, _⟩ := Flds.shape_of of
  have ha1 := (Below.refl w1.heap.size w1).alloc (Nat.le_refl _) (.cells #[.string ⟨m.toArray⟩, .string ⟨h.toArray⟩, .string ⟨t.toArray⟩, .slice av l.length cv] 26)
  have B1 := Lib.hid (Base.then_below b1 ha1)
  have HX1 := Lib.hid (Cur.box4_new w1 (.string ⟨m.toArray⟩) (.string ⟨h.toArray⟩) (.string ⟨t.toArray⟩) (.slice av l.length cv) 26)
  have HF1 := Lib.hid (Flds.holds_below (Flds.own_holds of) ha1)
  have HN1 := Lib.hid (Strs.holds_below (Strs.own_holds on) ha1)
  have HZ1 := Lib.hid ha1.size
  obtain ⟨⟨q0, q1, q2, q3⟩, _⟩ := Cur.box4 HX1.out
  have HS1 := Lib.hid (Sel.impl_sof m h t _ _ l u _ zs (w1.alloc (.cells #[.string ⟨m.toArray⟩, .string ⟨h.toArray⟩, .string ⟨t.toArray⟩, .slice av l.length cv] 26)) HF1.out HZ1.out (by omega) HN1.out HZ1.out (by omega))
  obtain ⟨an, cn, rfl, _⟩ := Qua.shape_s HN1.out
  unfold Sel.SofEnd at HS1
  clear ha1 b1 of on hfw
  go_wp2_with (fail)
  go_at_call 7
  refine HS1.out.mono ?_
  rintro e w2 ⟨vl, rfl, ol, b2⟩
  clear q0 q1 q2 q3
  have B2 := Lib.hid (Base.then_below B1.out b2)
  have HX2 := Lib.hid (Cur.blk_below HX1.out b2)
  have HF2 := Lib.hid (Flds.holds_below HF1.out (b2.mono HZ1.out))
  have HZ2 := Lib.hid (Nat.le_trans HZ1.out b2.size)
  have HL2 := Lib.hid (Flds.own_holds ol)
  obtain ⟨al, cl, rfl, _⟩ := Flds.shape_of ol
  have hsl := Sel.sof_len l zs
  rw [hsl] at HL2
  rw [hsl]
  clear hsl b2 ol B1 HX1 HF1 HZ1 HN1 HS1
  go_wp2_with (fail)
  go_at_call 8
  refine (Cur.draw_vo _ _ _ (Cur.bytes_below HBY.out B2.out) B2.out.size).mono ?_
  rintro e w3 ⟨vf, lf, rfl, hff, off, b3⟩
  have hvt := Cur.fewn_total hff
  have B3 := Lib.hid (Base.then_below B2.out b3)
  have HX3 := Lib.hid (Cur.blk_below HX2.out b3)
  have HF3 := Lib.hid (Flds.holds_below HF2.out (b3.mono HZ2.out))
  have HZ3 := Lib.hid (Nat.le_trans HZ2.out b3.size)
  have HL3 := Lib.hid (Flds.holds_more (Flds.holds_below HL2.out b3) b3.size)
  have HVY := Lib.hid (Vyo.impl_vy vf _ lf w3 (Flds.own_holds off) (Nat.le_refl _) (by omega))
  have HAN := Lib.hid (fun h => vy_any (l := lf) h)
  have HAP := Lib.hid (vy_apart lf)
  have hvl : (Vyo.vy lf).1.length ≤ 900 := Nat.le_trans (vy_len lf) (by omega)
  unfold Vyo.VyEnd at HVY
  obtain ⟨ys, any, hvy⟩ : ∃ ys any, Vyo.vy lf = (ys, any) := ⟨_, _, rfl⟩
  rw [hvy] at HVY HAN HAP hvl
  dsimp only at HVY HAN HAP hvl
  clear b3 off hff hvy B2 HX2 HF2 HZ2 HL2
  go_wp2_with (fail)
  go_at_call 9
  refine HVY.out.mono ?_
  rintro e w4 ⟨vy, rfl, oy, b4⟩
  have B4 := Lib.hid (Base.then_below B3.out b4)
  have HX4 := Lib.hid (Cur.blk_below HX3.out b4)
  have HF4 := Lib.hid (Flds.holds_below HF3.out (b4.mono HZ3.out))
  have HZ4 := Lib.hid (Nat.le_trans HZ3.out b4.size)
  have HL4 := Lib.hid (Flds.holds_more (Flds.holds_below HL3.out b4) b4.size)
  obtain ⟨ay, cy, rfl, hay⟩ := Qua.shape_s (Strs.own_holds oy)
  have HAY := Lib.hid hay
  clear b4 oy hay HVY B3 HX3 HF3 HZ3 HL3
  go_wp2
  go_loopw [9] (fun i wr => ∃ k : Nat, k ≤ ys.length ∧ i = .int .i64 (k : Int) ∧ Hid (Below w4.heap.size w4 wr)) (fun i _ => ys.length - (intOf i).toNat)
  case atStart => exact ⟨0, Nat.zero_le _, rfl, Lib.hid (Below.refl _ _)⟩
  case round =>
    obtain ⟨k, hk, rfl, HG⟩ := hrel
    by_cases hlt : k < ys.length
    · have hki : (k : Int) < (ys.length : Int) := by omega
      go_wp2
      go_loopw [10] (fun i wq => ∃ j : Nat, j ≤ k ∧ i = .int .i64 (j : Int) ∧ Hid (Below w4.heap.size w4 wq)) (fun i _ => k - (intOf i).toNat)
      case atStart => exact ⟨0, Nat.zero_le _, rfl, HG⟩
      case round =>
        clear HG
        obtain ⟨j, hj, rfl, HG⟩ := hrel
        by_cases hjk : j < k
        · obtain ⟨b, off, rfl, hbl, _, hat⟩ := HAY.out (by omega)
          have hat2 := Strs.at_below hat HG.out hbl
          have d0 := hat2 j (by omega)
          have d1 := hat2 k hlt
          have hne := HAP.out k j hjk hlt
          generalize ys.getD j [] = x at d0 hne
          generalize ys.getD k [] = y at d1 hne
          have hq : (x == y) = false := by simpa using hne
          have hji : (j : Int) < (k : Int) := by omega
          have hjl : (j : Int) < (ys.length : Int) := by omega
          have HSD : Hid (GS wr wr.drew) := Lib.hid (Rec.below_drew (Below.refl _ _))
          have f0 : ∀ q : RegS.In (GS wr), q.w.cell? ⟨b, off + j, none⟩ = some (.string ⟨x.toArray⟩) := fun q => gs_cell q.h d0
          have f1 : ∀ q : RegS.In (GS wr), q.w.cell? ⟨b, off + k, none⟩ = some (.string ⟨y.toArray⟩) := fun q => gs_cell q.h d1
          clear hat hat2 d0 d1
          go_wp2
          refine RegS.region (GS wr) (by kernel_rfl) (by kernel_rfl) HSD.out ?_
          haveI : Nonempty (RegS.In (GS wr)) := ⟨⟨_, HSD.out⟩⟩
          repeat (first | go_big_quiet_step (fail) | quiet_step (fail))
          refine wpQuiet_nil ?_
          intro wz hw'
          obtain ⟨⟨wx, hSq⟩, hw''⟩ := hw'
          have HGZ : Hid (Below w4.heap.size w4 wz) := Lib.hid (by rw [hw'']; exact HG.out.trans (hSq.mono HG.out.size))
          clear hSq hw'' wx
          go_wp2
          go_roundw
          case rel => exact ⟨j + 1, by omega, by go_num, HGZ⟩
          case measure => simp [intOf]; omega
        · have hji : ¬ (j : Int) < (k : Int) := by omega
          go_wp2
          go_roundw
          case rel => exact ⟨k + 1, by omega, by go_num, HG⟩
          case measure => simp [intOf]; omega
    · have hki : ¬ (k : Int) < (ys.length : Int) := by omega
      have B5 := Lib.hid (Base.then_below B4.out HG.out)
      have HX5 := Lib.hid (Cur.blk_below HX4.out HG.out)
      have HF5 := Lib.hid (Flds.holds_below HF4.out (HG.out.mono HZ4.out))
      have HZ5 := Lib.hid (Nat.le_trans HZ4.out HG.out.size)
      have HL5 := Lib.hid (Flds.holds_more (Flds.holds_below HL4.out HG.out) HG.out.size)
      have ha5 := (Below.refl wr.heap.size wr).alloc (Nat.le_refl _) (.cells #[.string ⟨#[100, 101]⟩, .string ⟨#[101, 110]⟩, .string ⟨#[102, 114]⟩] 9)
      have HLN6 : Hid (Strs.Holds (wr.alloc (.cells #[.string ⟨#[100, 101]⟩, .string ⟨#[101, 110]⟩, .string ⟨#[102, 114]⟩] 9)) (wr.heap.size + 1) (.slice (some ⟨wr.heap.size, 0, none⟩) 3 3) lngs) := Lib.hid (lits_hold wr lngs (by decide))
      have B6 := Lib.hid (Base.then_below B5.out ha5)
      have HX6 := Lib.hid (Cur.blk_below HX5.out ha5)
      have HF6 := Lib.hid (Flds.holds_below HF5.out (ha5.mono HZ5.out))
      have HZ6 := Lib.hid (Nat.le_trans HZ5.out ha5.size)
      have HL6 := Lib.hid (Flds.holds_more (Flds.holds_below HL5.out ha5) ha5.size)
      have HGT := Lib.hid (get_i _ _ l alng _ HF6.out HZ6.out (by omega))
      have hs6 : (wr.alloc (.cells #[.string ⟨#[100, 101]⟩, .string ⟨#[101, 110]⟩, .string ⟨#[102, 114]⟩] 9)).heap.size = wr.heap.size + 1 := by simp
      have HS6 := Lib.hid hs6
      obtain ⟨⟨q0, q1, q2, q3⟩, _⟩ := Cur.box4 HX6.out
      clear ha5 hs6 B5 HX5 HF5 HZ5 HL5 HG HAP B4 HX4 HF4 HZ4 HL4 HAY
      go_wp2_with (fail)
      go_at_call 10
      refine HGT.out.mono ?_
      rintro e w7 ⟨zg, rfl, b7⟩
      clear q0 q1 q2 q3
      have B7 := Lib.hid (Base.then_below B6.out b7)
      have HX7 := Lib.hid (Cur.blk_below HX6.out b7)
      have HF7 := Lib.hid (Flds.holds_below HF6.out (b7.mono HZ6.out))
      have HZ7 := Lib.hid (Nat.le_trans HZ6.out b7.size)
      have HL7 := Lib.hid (Flds.holds_more (Flds.holds_below HL6.out b7) b7.size)
      have HLN7 := Lib.hid (Strs.holds_below HLN6.out (b7.mono (by rw [HS6.out]; exact Nat.le_refl _)))
      have HS7 : Hid (wr.heap.size + 1 ≤ w7.heap.size) := Lib.hid (by have := b7.size; rw [HS6.out] at this; exact this)
      have ha7 := (Below.refl w7.heap.size w7).alloc (Nat.le_refl _) (.cells #[.string ⟨#[97, 99, 99, 101, 112, 116, 45, 108, 97, 110, 103, 117, 97, 103, 101]⟩] 9)
      have HAN8 : Hid (Strs.Holds (w7.alloc (.cells #[.string ⟨#[97, 99, 99, 101, 112, 116, 45, 108, 97, 110, 103, 117, 97, 103, 101]⟩] 9)) (w7.heap.size + 1) (.slice (some ⟨w7.heap.size, 0, none⟩) 1 1) [alng]) := Lib.hid (lits_hold w7 [alng] (by decide))
      have B8 := Lib.hid (Base.then_below B7.out ha7)
      have HX8 := Lib.hid (Cur.blk_below HX7.out ha7)
      have HF8 := Lib.hid (Flds.holds_below HF7.out (ha7.mono HZ7.out))
      have HZ8 := Lib.hid (Nat.le_trans HZ7.out ha7.size)
      have HL8 := Lib.hid (Flds.holds_more (Flds.holds_below HL7.out ha7) ha7.size)
      have HLN8 := Lib.hid (Strs.holds_below HLN7.out (ha7.mono HS7.out))
      have HS8 := Lib.hid (Nat.le_trans HS7.out ha7.size)
      have hs8 : (w7.alloc (.cells #[.string ⟨#[97, 99, 99, 101, 112, 116, 45, 108, 97, 110, 103, 117, 97, 103, 101]⟩] 9)).heap.size = w7.heap.size + 1 := by simp
      have HSO := Lib.hid (Sel.impl_sof m h t _ _ l _ _ [alng] _ HF8.out HZ8.out (by omega) HAN8.out (by rw [hs8]; exact Nat.le_refl _) (by decide))
      unfold Sel.SofEnd at HSO
      obtain ⟨⟨q0, q1, q2, q3⟩, _⟩ := Cur.box4 HX7.out
      clear b7 ha7 hs8 B6 HX6 HF6 HZ6 HL6 HLN6 HS6 HGT B7 HF7 HZ7 HL7 HLN7 HS7 HAN8
      go_wp2_with (fail)
      go_at_call 7
      refine HSO.out.mono ?_
      rintro e w9 ⟨vm, rfl, om, b9⟩
      clear q0 q1 q2 q3
      have B9 := Lib.hid (Base.then_below B8.out b9)
      have HX9 := Lib.hid (Cur.blk_below HX8.out b9)
      have HF9 := Lib.hid (Flds.holds_below HF8.out (b9.mono HZ8.out))
      have HZ9 := Lib.hid (Nat.le_trans HZ8.out b9.size)
      have HL9 := Lib.hid (Flds.holds_more (Flds.holds_below HL8.out b9) b9.size)
      have HLN9 := Lib.hid (Strs.holds_below HLN8.out (b9.mono HS8.out))
      have HS9 := Lib.hid (Nat.le_trans HS8.out b9.size)
      have hmlen : (Sel.sof l [alng]).length = 1 := rfl
      obtain ⟨am, cm, rfl, ham⟩ := Flds.shape_of om
      obtain ⟨gm, rfl⟩ := ham (by rw [hmlen]; decide)
      obtain ⟨d0, d1⟩ := Flds.own_cell (g := gm) om (j := 0) (by rw [hmlen]; decide)
      have dv : w9.cell? ⟨gm, 1, none⟩ = some (.string ⟨(Sel.selv alng l).toArray⟩) := d1
      obtain ⟨cx, hcx⟩ : ∃ cx, Qua.cho lngs (Tx.join (Flds.vals alng l)) = cx := ⟨_, rfl⟩
      have hcs : Qua.cho lngs (Sel.selv alng l) = cx := (cho_sel lngs alng l).trans hcx
      have hsv : (Sel.selv alng l).length ≤ 4000 := Nat.le_trans (Sel.selv_len alng l) (by omega)
      have hgv : (Tx.join (Flds.vals alng l)).length ≤ 1000 := Nat.le_trans (Flds.got_len alng l) (by omega)
      have HSD : Hid (GS w9 w9.drew) := Lib.hid (Rec.below_drew (Below.refl _ _))
      have SK : Hid (∀ v0 v1 : World, GS w9 v0 → Below v0.heap.size v0 v1 → GS w9 v1) := Lib.hid (fun _ _ h hb => gs_call h hb)
      obtain ⟨⟨q0, q1, q2, q3⟩, _⟩ := Cur.box4 HX9.out
      have HCA := Lib.hid (fun n : RegS.In (GS w9) => agr_i m h t (.slice av l.length cv) _ l (.slice al zs.length cl) _ zs n.w (Flds.holds_below HF9.out (n.h.mono HZ9.out)) (Nat.le_trans HZ9.out n.h.size) (by omega) (Flds.holds_below HL9.out n.h) (by omega))
      have HC1 := Lib.hid (fun n : RegS.In (GS w9) => cho_i (.slice (some ⟨wr.heap.size, 0, none⟩) 3 3) _ lngs _ cx n.w (Strs.holds_below HLN9.out (n.h.mono HS9.out)) (Nat.le_trans HS9.out n.h.size) (by decide) (Nat.le_trans hgv (by decide)) (HER.out _ (Base.then_below B9.out n.h)).1 (HER.out _ (Base.then_below B9.out n.h)).2 hcx)
      have HC2 := Lib.hid (fun n : RegS.In (GS w9) => cho_i (.slice (some ⟨wr.heap.size, 0, none⟩) 3 3) _ lngs _ cx n.w (Strs.holds_below HLN9.out (n.h.mono HS9.out)) (Nat.le_trans HS9.out n.h.size) (by decide) (Nat.le_trans hsv (by decide)) (HER.out _ (Base.then_below B9.out n.h)).1 (HER.out _ (Base.then_below B9.out n.h)).2 hcs)
      have f0 : ∀ q : RegS.In (GS w9), q.w.cell? ⟨w1.heap.size, 0, none⟩ = some (.string ⟨m.toArray⟩) := fun q => gs_cell q.h q0
      have f1 : ∀ q : RegS.In (GS w9), q.w.cell? ⟨w1.heap.size, 1, none⟩ = some (.string ⟨h.toArray⟩) := fun q => gs_cell q.h q1
      have f2 : ∀ q : RegS.In (GS w9), q.w.cell? ⟨w1.heap.size, 2, none⟩ = some (.string ⟨t.toArray⟩) := fun q => gs_cell q.h q2
      have f3 : ∀ q : RegS.In (GS w9), q.w.cell? ⟨w1.heap.size, 3, none⟩ = some (.slice av l.length cv) := fun q => gs_cell q.h q3
      have f4 : ∀ q : RegS.In (GS w9), q.w.cell? ⟨gm, 1, none⟩ = some (.string ⟨(Sel.selv alng l).toArray⟩) := fun q => gs_cell q.h dv
      generalize Sel.selv alng l = sv at HC2 f4
      generalize Tx.join (Flds.vals alng l) = gv at HC1
      have hl1 : ((zs.length : Int) == (zs.length : Int)) = true := by simp
      rw [hmlen]
      clear b9 om ham d0 d1 dv q0 q1 q2 q3 hcs hcx HX8 HF8 HZ8 HL8 HLN8 HS8 HSO B8 HX9 HF9 HZ9 HL9 HLN9 HS9 hsv hgv hmlen
      cases any with
      | true =>
        have hy0 := HAN.out rfl
        subst hy0
        clear HAN
        go_wp2
        refine RegS.region (GS w9) (by kernel_rfl) (by kernel_rfl) HSD.out ?_
        haveI : Nonempty (RegS.In (GS w9)) := ⟨⟨_, HSD.out⟩⟩
        repeat (first | go_big_quiet_step ((first | (go_at_call 11; with_reducible exact RegS.call (HCA.out _) (fun e w' he => ⟨he.1, SK.out _ _ (RegS.In.h _) he.2⟩)) | (go_at_call 12; with_reducible exact RegS.call (HC1.out _) (fun e w' he => ⟨he.1, SK.out _ _ (RegS.In.h _) he.2⟩)) | (go_at_call 12; with_reducible exact RegS.call (HC2.out _) (fun e w' he => ⟨he.1, SK.out _ _ (RegS.In.h _) he.2⟩)))) | quiet_step ((first | (go_at_call 11; with_reducible exact RegS.call (HCA.out _) (fun e w' he => ⟨he.1, SK.out _ _ (RegS.In.h _) he.2⟩)) | (go_at_call 12; with_reducible exact RegS.call (HC1.out _) (fun e w' he => ⟨he.1, SK.out _ _ (RegS.In.h _) he.2⟩)) | (go_at_call 12; with_reducible exact RegS.call (HC2.out _) (fun e w' he => ⟨he.1, SK.out _ _ (RegS.In.h _) he.2⟩)))))
        refine wpQuiet_nil ?_
        intro wz hw'
        obtain ⟨⟨wx, hSq⟩, hw''⟩ := hw'
        have HBZ : Hid (Below w.heap.size w wz) := Lib.hid (by rw [hw'']; exact Base.then_below B9.out hSq)
        clear hSq hw'' wx
        go_wp2
        go_ret
        exact ⟨by first | rfl | simp, HBZ.out⟩
      | false =>
        clear HAN
        go_wp2
        refine RegS.region (GS w9) (by kernel_rfl) (by kernel_rfl) HSD.out ?_
        haveI : Nonempty (RegS.In (GS w9)) := ⟨⟨_, HSD.out⟩⟩
        repeat (first | go_big_quiet_step ((first | (go_at_call 11; with_reducible exact RegS.call (HCA.out _) (fun e w' he => ⟨he.1, SK.out _ _ (RegS.In.h _) he.2⟩)) | (go_at_call 12; with_reducible exact RegS.call (HC1.out _) (fun e w' he => ⟨he.1, SK.out _ _ (RegS.In.h _) he.2⟩)) | (go_at_call 12; with_reducible exact RegS.call (HC2.out _) (fun e w' he => ⟨he.1, SK.out _ _ (RegS.In.h _) he.2⟩)))) | quiet_step ((first | (go_at_call 11; with_reducible exact RegS.call (HCA.out _) (fun e w' he => ⟨he.1, SK.out _ _ (RegS.In.h _) he.2⟩)) | (go_at_call 12; with_reducible exact RegS.call (HC1.out _) (fun e w' he => ⟨he.1, SK.out _ _ (RegS.In.h _) he.2⟩)) | (go_at_call 12; with_reducible exact RegS.call (HC2.out _) (fun e w' he => ⟨he.1, SK.out _ _ (RegS.In.h _) he.2⟩)))))
        refine wpQuiet_nil ?_
        intro wz hw'
        obtain ⟨⟨wx, hSq⟩, hw''⟩ := hw'
        have HBZ : Hid (Below w.heap.size w wz) := Lib.hid (by rw [hw'']; exact Base.then_below B9.out hSq)
        clear hSq hw'' wx
        go_wp2
        go_ret
        exact ⟨by first | rfl | simp, HBZ.out⟩
end Go.Proofs.YtegaakgmfphcaaaGreatDoor.fnSelecting
