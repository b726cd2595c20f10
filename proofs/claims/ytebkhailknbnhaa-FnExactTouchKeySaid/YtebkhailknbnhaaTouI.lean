/-
  CONTRACT of the program's TouchKey: at any sketch and key it gives the sketch touched, in memory of its own; nothing that was there before is changed.
-/
import Derived.Test.YtebkhailknbnhaaTouK
import Derived.Test.YtebkhailknbnhaaSkCnt
namespace Go.Proofs.Ytebkhailknbnhaa.Sk
open Go Go.RowKit
set_option linter.unusedVariables false
set_option maxRecDepth 1000000
set_option maxRecDepth 1000000

def TouEnd (zs : List Int) (n : Int) (s : List UInt8) (w : World) (e : Ending) (w' : World) : Prop := ∃ v, e = .returned (.agg #[v, .int .i64 (touched zs n s).2]) ∧ Nums.OwnI w' w.heap.size v (touched zs n s).1 ∧ Below w.heap.size w w'
/-- The end: what stands in the sketch's block is laid into the result's block. -/
theorem fin_st {w W : World} {B g b cp : Nat} {n : Int} {zs : List Int} {r : Nat} (h : St B g b cp n zs W) (hb : Below w.heap.size w W) (hB : w.heap.size ≤ B) (hr : w.heap.size ≤ r) (hbr : b ≠ r) (x y : Value) :
    Nums.OwnI ((W.setCell ⟨r, 0, none⟩ x).setCell ⟨r, 1, none⟩ y) w.heap.size (.slice (some ⟨b, 0, none⟩) 64 cp) zs ∧ Below w.heap.size w ((W.setCell ⟨r, 0, none⟩ x).setCell ⟨r, 1, none⟩ y) := by
  have ho : W.ownsRow B 3 1 (.slice (some ⟨b, 0, none⟩) 64 cp) ([] ++ zs).length (Rec.flat ics ([] ++ zs)) := by
    rw [flat_ics, List.nil_append, h.2.2.2]; exact h.2.1
  exact fin2 ho (fun k e => by have e2 : b = k := Option.some.inj e; omega) hr hB hb x y

set_option maxHeartbeats 16000000 in
theorem impl_tou (v : Value) (zs : List Int) (n : Int) (s : List UInt8) (B : Nat) (w : World) (h : RH w B v zs) (hB : B ≤ w.heap.size) (hl : zs.length ≤ 1048576) (hs : s.length ≤ 1048576) :
    Calls Try.prog 10 #[.agg #[v, .int .i64 n], .string ⟨s.toArray⟩] w (TouEnd zs n s w) := by
  obtain ⟨i0, hi, hz0, hz1, hz2⟩ := info_parts Nums.info_int
  obtain ⟨av, cv, rfl, _⟩ := shape_n (rh_nums h)
  have k1 := Kept.Box.new (w := w) (T := 26) (a := #[.slice av zs.length cv, .int .i64 n])
  have k2 := Kept.Box.new (w := (w.alloc (.cells #[.slice av zs.length cv, .int .i64 n] 26))) (T := 26) (a := #[.slice none 0 0, .int .i64 0])
  have hsz : (w.alloc (.cells #[.slice av zs.length cv, .int .i64 n] 26)).heap.size = w.heap.size + 1 := by simp
  rw [hsz] at k2
  have k1 := k1.alloc (.cells #[.slice none 0 0, .int .i64 0] 26)
  have HB0 : Below w.heap.size w ((w.alloc (.cells #[.slice av zs.length cv, .int .i64 n] 26)).alloc (.cells #[.slice none 0 0, .int .i64 0] 26)) := ((Below.refl w.heap.size w).alloc (Nat.le_refl _) _).alloc (by simp) _
  have hVs : ((w.alloc (.cells #[.slice av zs.length cv, .int .i64 n] 26)).alloc (.cells #[.slice none 0 0, .int .i64 0] 26)).heap.size = w.heap.size + 1 + 1 := by simp
  obtain ⟨V, hV⟩ : ∃ V, V = ((w.alloc (.cells #[.slice av zs.length cv, .int .i64 n] 26)).alloc (.cells #[.slice none 0 0, .int .i64 0] 26)) := ⟨_, rfl⟩
  rw [← hV] at k1 k2 HB0 hVs
  have HM : RH V w.heap.size (.slice av zs.length cv) zs := Rec.holds_more (Rec.holds_below h (HB0.mono hB)) hB
  have FB : Hid (∀ u, Below V.heap.size V u → Two (.slice av zs.length cv) n w.heap.size V u) := Lib.hid (fun u hb => by
    have q1 := k1.below hb
    have q2 := k2.below hb
    exact ⟨q1.cell 0 _ rfl, q1.cell 1 _ rfl, ⟨q2.cell 0 _ rfl, q2.cell 1 _ rfl⟩, q2.frz 0, q2.frz 1⟩)
  have HCP := Lib.hid (impl_cpsk (.slice av zs.length cv) zs n w.heap.size V HM HB0.size hl)
  have HIS := Lib.hid (fun u (hb : Below V.heap.size V u) => impl_iss (.slice av zs.length cv) zs n u (rh_nums (Rec.holds_below HM (hb.mono (by omega)))) hl)
  have HBV := Lib.hid HB0
  have HVS := Lib.hid hVs
  have HVV := Lib.hid hV
  have HC := Lib.hid (fun W => counts s W hs)
  have HRES : Hid (skOk zs n = false → touched zs n s = (zs, n)) := Lib.hid (fun e => by unfold touched; rw [if_neg (by rw [e]; decide)])
  have HRE2 : Hid (skOk zs n = true → touched zs n s = if n + 1 = 64 then (halfs (tk s (full zs) 4), 32) else (tk s (full zs) 4, n + 1)) := Lib.hid (fun e => by unfold touched; rw [if_pos e])
  unfold TouEnd
  obtain ⟨res, hres⟩ : ∃ r, r = touched zs n s := ⟨_, rfl⟩
  rw [← hres] at HRES HRE2 ⊢
  unfold CopiedO at HCP
  unfold BoolEnd at HIS
  clear h k1 k2 HB0 HM hres
  obtain ⟨v0, v1, ⟨v2, v3⟩, v4, v5⟩ := FB.out V (Below.refl _ _)
  rw [hV] at v0 v1 v2 v3 v4 v5
  clear hV
  go_enter Try.func10, Try.ntmps10
  go_wp2_with (fail)
  go_at_call 37
  rw [← HVV.out]
  refine HCP.out.mono ?_
  rintro e w1 ⟨u1, rfl, ho1, b1⟩
  obtain ⟨a1, c1, rfl, hsh1⟩ := Rec.shape_at ho1
  have HSH := Lib.hid hsh1
  have hW2 : Below V.heap.size V (w1.alloc (.cells #[.slice a1 zs.length c1, .int .i64 n] 26)) := b1.alloc b1.size _
  have HK2 := Kept.Box.new (w := w1) (T := 26) (a := #[.slice a1 zs.length c1, .int .i64 n])
  have HO2 := Lib.hid (ho1.alloc (.cells #[.slice a1 zs.length c1, .int .i64 n] 26))
  have HNE : Hid (∀ k, Value.ownBlock (.slice a1 zs.length c1) = some k → V.heap.size ≤ k ∧ k < w1.heap.size) := Lib.hid (fun k e => ho1.lt k e)
  have hg5 : V.heap.size ≤ w1.heap.size := b1.size
  obtain ⟨g5, hg5e⟩ : ∃ g, g = w1.heap.size := ⟨_, rfl⟩
  obtain ⟨W2, hW2e⟩ : ∃ W, W = (w1.alloc (.cells #[.slice a1 zs.length c1, .int .i64 n] 26)) := ⟨_, rfl⟩
  have HW2E := Lib.hid hW2e
  have HIS2 := Lib.hid (HIS.out _ hW2)
  rw [← hW2e] at hW2 HK2 HO2
  rw [← hg5e] at hg5 HK2 HNE
  have HKB := Lib.hid HK2
  have HBW2 := Lib.hid hW2
  obtain ⟨x0, x1, ⟨x2, x3⟩, x4, x5⟩ := FB.out _ hW2
  rw [hW2e] at x0 x1 x2 x3 x4 x5
  clear ho1 b1 hsh1 HCP HIS v0 v1 v2 v3 v4 v5 hW2 HK2 hW2e
  go_wp2_with (fail)
  go_at_call 38
  refine HIS2.out.mono ?_
  rintro e w3 ⟨rfl, b3⟩
  rw [← HW2E.out] at b3
  have HB3 := Lib.hid (Base.then_below HBW2.out b3)
  have HK3 := Lib.hid (HKB.out.below b3)
  have HO3 := Lib.hid (Rec.row_below HO2.out b3)
  clear b3 x0 x1 x2 x3 x4 x5 HIS2 HKB HO2
  obtain ⟨x0, x1, ⟨x2, x3⟩, x4, x5⟩ := FB.out _ HB3.out
  have g0 := HK3.out.cell 0 _ rfl
  have g1 := HK3.out.cell 1 _ rfl
  have gf0 := HK3.out.frz 0
  have gf1 := HK3.out.frz 1
  cases hok : skOk zs n with
  | false =>
    have HR := Lib.hid (HRES.out hok)
    have HF := Lib.hid (fin2 (w := w) (g := w.heap.size + 1) (W := w3) (B := V.heap.size) (zs := zs) (v := .slice a1 zs.length c1) (by rw [flat_ics, List.nil_append]; exact HO3.out) (fun k e => by have := (HNE.out k e).1; have := HVS.out; omega) (by omega) HBV.out.size (Base.then_below HBV.out HB3.out))
    clear hok HRES HRE2
    rw [hg5e] at g0 g1 gf0 gf1
    go_wp2
    refine bodyPost_ret (v := .agg #[.slice a1 zs.length c1, .int .i64 n]) (by simp [results, Try.results10, go_sem, x2, x3]) rfl ⟨_, by rw [HR.out], ?_, (HF.out _ _).2⟩
    rw [HR.out]; exact (HF.out _ _).1
  | true =>
    have HR := Lib.hid (HRE2.out hok)
    obtain ⟨hin, hlen, hn0, hn1⟩ := ok_in hok
    obtain ⟨hfin, hfl⟩ := full_in hok
    have HTK := Lib.hid (fun k hk => tk_in (s := s) hfin hfl k hk)
    have HFL := Lib.hid hfl
    have HFZ : Hid (zs.length = 0 → full zs = List.replicate 64 0) := Lib.hid (fun e => by unfold full; rw [if_pos e])
    have HFN : Hid (zs.length ≠ 0 → full zs = zs) := Lib.hid (fun e => by unfold full; rw [if_neg e])
    clear hok HRES HRE2 hin hfin hfl
    rw [hg5e] at g0 g1 gf0 gf1
    by_cases h0 : zs.length = 0
    · have h0i : ((zs.length : Nat) : Int) = 0 := by omega
      rw [h0] at g0
      have hgl := HK3.out.lt
      have hmd : (madeCells (Value.int .i64 0).cells (64 * 1)).toList = (List.replicate 64 0).map (Value.int .i64) := by kernel_rfl
      have HMD := Lib.hid hmd
      clear hmd
      go_wp2_with (at_make; refine wpList_make_full _ rfl (.const (.int .i64 64)) (.const (.int .i64 64)) 22 rfl w3.heap.size 3 i0 (.int .i64 0) 1 Try.underlying22 hi hz0 hz1 .i64 .i64 _ _ 64 rfl rfl rfl rfl (by rw [hz2]; omega) (by unfold maxLen; omega) (Nat.le_refl _) ?_; intro w4 hown hgrow; have HBX := Lib.hid (box_grown HK3.out hgrow (by simp)); have k0 := HBX.out.cell 0 _ rfl; have k1 := HBX.out.cell 1 _ rfl; have kf0 := HBX.out.frz 0; rw [hg5e] at k0 k1 kf0; have HB4 := Lib.hid ((Below.refl w3.heap.size w3).grown hgrow (Nat.le_refl _) (fun k e => by cases e)); have HMO := Lib.hid hown; clear hown hgrow)
      have HFZ1 := HFZ.out h0
      have HST : St V.heap.size g5 w3.heap.size 64 n (full zs) (w4.setCell ⟨g5, 0, none⟩ (.slice (some ⟨w3.heap.size, 0, none⟩) 64 64)) ∧ Below V.heap.size V (w4.setCell ⟨g5, 0, none⟩ (.slice (some ⟨w3.heap.size, 0, none⟩) 64 64)) := by
        rw [HFZ1]
        refine ⟨⟨HBX.out.same (k := 0) (by simp) _, ?_, by omega, by simp⟩, (Base.then_below HB3.out HB4.out).setCell (p := ⟨g5, 0, none⟩) (by show V.heap.size ≤ g5; omega) _⟩
        rw [← HMD.out]
        exact Rec.own_mono (ownsRow_setCell_other (a := ⟨g5, 0, none⟩) HMO.out (fun e => by have e2 : w3.heap.size = g5 := Option.some.inj e; omega) _) HB3.out.size
      have HSTT := Lib.hid HST
      clear HST HFZ1
      have hix : ∀ k : Nat, k < 4 → ∀ W : World, (Instr.index 65 (four fun j => ix j s) (.int .i64 (k : Int))).run Try.prog W = .ok (.int .i64 (ix k s)) W := fun k hk W => idx4 (fun j => ix j s) k hk W
      have HIX := Lib.hid hix
      clear hix
      have HCW := Lib.hid HC.out
      unfold four at HCW HIX
      generalize hy0 : ix 0 s = y0 at HCW HIX
      generalize hy1 : ix 1 s = y1 at HCW HIX
      generalize hy2 : ix 2 s = y2 at HCW HIX
      generalize hy3 : ix 3 s = y3 at HCW HIX
      clear hy0 hy1 hy2 hy3
      have hr : w.heap.size + 1 < g5 := by have := HVS.out; omega
      go_wp2_with (fail)
      go_at_call 39
      refine (HCW.out _).mono ?_
      rintro e w5 ⟨rfl, b5⟩
      (try rw [← hg5e] at b5)
      have HS5 := Lib.hid (st_below HSTT.out.1 b5)
      have HB5 := Lib.hid (Base.then_below HSTT.out.2 b5)
      clear b5
      go_wp2
      go_loopw [7, 22] (fun _ i wr => ∃ k : Nat, k ≤ 4 ∧ i = .int .i64 (k : Int) ∧ Hid (St V.heap.size g5 w3.heap.size 64 n (tk s (full zs) k) wr) ∧ Hid (Below V.heap.size V wr)) (fun _ i _ => 4 - (intOf i).toNat)
      case atStart => exact ⟨0, by omega, rfl, HS5, HB5⟩
      case round =>
        clear HS5 HB5
        obtain ⟨k, hk, rfl, HS, HB⟩ := hrel
        have g0 := HS.out.1.cell 0 _ rfl
        have g1 := HS.out.1.cell 1 _ rfl
        have gf1 := HS.out.1.frz 1
        rw [hg5e] at g0 g1 gf1
        by_cases hlt : k < 4
        · have hii := HIX.out k hlt
          have hki : (k : Int) < 4 := by omega
          have hb := ix_bd k s
          have hj := ix_in k hlt s
          obtain ⟨c0, c1⟩ := st_cell HS.out hj
          have HTB := Lib.hid (in_get (HTK.out k (by omega)) (i := (ix k s).toNat) (by rw [tk_len, HFL.out]; exact hj))
          have HN := Lib.hid (st_count HS.out hj ((tk s (full zs) k).getD (ix k s).toNat 0 + 1))
          have HTM : Hid (tk s (full zs) (k + 1) = (tk s (full zs) k).set (ix k s).toNat ((tk s (full zs) k).getD (ix k s).toNat 0 + 1)) := Lib.hid rfl
          rw [← HTM.out] at HN
          have HBN : Hid (Below V.heap.size V (wr.setCell ⟨w3.heap.size, (ix k s).toNat, none⟩ (.int .i64 ((tk s (full zs) k).getD (ix k s).toNat 0 + 1)))) := Lib.hid (HB.out.setCell (p := ⟨w3.heap.size, _, none⟩) (st_lt HS.out) _)
          obtain ⟨z, hz⟩ : ∃ z, z = ix k s := ⟨_, rfl⟩
          rw [← hz] at hii hb hj c0 c1 HTB HN HBN
          clear hz HTM
          obtain ⟨j, rfl⟩ : ∃ j : Nat, z = (j : Int) := ⟨z.toNat, by omega⟩
          rw [Int.toNat_natCast] at hj c0 c1 HTB HN HBN
          generalize (tk s (full zs) k).getD j 0 = y at c0 HTB HN HBN
          have hyb := HTB.out
          have hj0 : (0 : Int) ≤ (j : Int) := by omega
          have hj1 : (j : Int) < 64 := by omega
          have hw : IntKind.i64.wrap (y + 1) = y + 1 := IntWalk.i64_in _ (by omega)
          clear HIX HC
          go_wp2
          go_roundw
          case rel => exact ⟨k + 1, by omega, by go_num, HN, HBN⟩
          case measure => simp [intOf]; omega
        · obtain rfl : k = 4 := by omega
          have HT := Lib.hid (st_total HS.out (n + 1))
          have HBT : Hid (Below V.heap.size V (wr.setCell ⟨g5, 1, none⟩ (.int .i64 (n + 1)))) := Lib.hid (HB.out.setCell (p := ⟨g5, 1, none⟩) (by show V.heap.size ≤ g5; omega) _)
          have hw : IntKind.i64.wrap (n + 1) = n + 1 := IntWalk.i64_in _ (by omega)
          have HIN : Hid (In 0 1000 (tk s (full zs) 4)) := Lib.hid (fun x hx => by have := HTK.out 4 (by omega) x hx; omega)
          have t0 := HT.out.1.cell 0 _ rfl
          have t1 := HT.out.1.cell 1 _ rfl
          obtain ⟨_, _, ⟨y2, y3⟩, y4, y5⟩ := FB.out _ HBT.out
          have HHV := Lib.hid (fun h => impl_halve V.heap.size g5 w3.heap.size 64 (n + 1) (tk s (full zs) 4) _ HT.out h HIN.out V HBT.out hg5 (Nat.le_refl _))
          rw [hg5e] at t0 t1 y2 y3 y4 y5 HHV
          by_cases h64 : n + 1 = 64
          · have HRV : Hid (res = (halfs (tk s (full zs) 4), 32)) := Lib.hid (by rw [HR.out, if_pos h64])
            have HHW := Lib.hid (HHV.out (by omega))
            rw [h64, show (64 : Int).tdiv 2 = 32 from rfl] at HHW
            clear HHV HR y2 y3 y4 y5
            go_wp2_with (fail)
            go_at_call 40
            refine HHW.out.mono ?_
            rintro e w8 ⟨rfl, hs8, hb8⟩
            have HF := Lib.hid (fin_st (w := w) (r := w.heap.size + 1) hs8 (Base.then_below HBV.out hb8) HBV.out.size (by omega) (by have := st_lt hs8; have := HVS.out; omega))
            obtain ⟨_, _, ⟨y2, y3⟩, y4, y5⟩ := FB.out _ hb8
            have r0 := hs8.1.cell 0 _ rfl
            have r1 := hs8.1.cell 1 _ rfl
            clear hs8 hb8 t0 t1 g0 g1 gf1
            go_wp2
            refine bodyPost_ret (v := .agg #[.slice (some ⟨w3.heap.size, 0, none⟩) 64 64, .int .i64 32]) (by simp [results, Try.results10, go_sem, y2, y3]) rfl ⟨_, by rw [HRV.out], ?_, (HF.out _ _).2⟩
            rw [HRV.out]; exact (HF.out _ _).1
          · have h64b : ((n + 1 : Int) == 64) = false := beq_eq_false_iff_ne.2 h64
            have HRV : Hid (res = (tk s (full zs) 4, n + 1)) := Lib.hid (by rw [HR.out, if_neg h64])
            have HF := Lib.hid (fin_st (w := w) (r := w.heap.size + 1) HT.out (Base.then_below HBV.out HBT.out) HBV.out.size (by omega) (by have := st_lt HT.out; have := HVS.out; omega))
            rw [hg5e] at HF
            clear HHV HR
            go_wp2
            refine bodyPost_ret (v := .agg #[.slice (some ⟨w3.heap.size, 0, none⟩) 64 64, .int .i64 (n + 1)]) (by simp [results, Try.results10, go_sem, y2, y3]) rfl ⟨_, by rw [HRV.out], ?_, (HF.out _ _).2⟩
            rw [HRV.out]; exact (HF.out _ _).1
    · have h0i : ¬ ((zs.length : Nat) : Int) = 0 := by omega
      have hb0 : ((zs.length : Int) == 0) = false := beq_eq_false_iff_ne.2 h0i
      have hz64 : zs.length = 64 := by omega
      obtain ⟨b, rfl⟩ := HSH.out (by omega)
      have hbg := HNE.out b rfl
      have hFN := HFN.out h0
      have HST : St V.heap.size g5 b c1 n (full zs) w3 ∧ Below V.heap.size V w3 := by
        rw [hFN]
        have k3 := HK3.out
        have o3 := HO3.out
        rw [hz64] at k3 o3
        exact ⟨⟨k3, o3, by omega, hz64⟩, HB3.out⟩
      have HSTT := Lib.hid HST
      clear HST hFN hz64 hbg
      have hix : ∀ k : Nat, k < 4 → ∀ W : World, (Instr.index 65 (four fun j => ix j s) (.int .i64 (k : Int))).run Try.prog W = .ok (.int .i64 (ix k s)) W := fun k hk W => idx4 (fun j => ix j s) k hk W
      have HIX := Lib.hid hix
      clear hix
      have HCW := Lib.hid HC.out
      unfold four at HCW HIX
      generalize hy0 : ix 0 s = y0 at HCW HIX
      generalize hy1 : ix 1 s = y1 at HCW HIX
      generalize hy2 : ix 2 s = y2 at HCW HIX
      generalize hy3 : ix 3 s = y3 at HCW HIX
      clear hy0 hy1 hy2 hy3
      have hr : w.heap.size + 1 < g5 := by have := HVS.out; omega
      go_wp2_with (fail)
      go_at_call 39
      refine (HCW.out _).mono ?_
      rintro e w5 ⟨rfl, b5⟩
      (try rw [← hg5e] at b5)
      have HS5 := Lib.hid (st_below HSTT.out.1 b5)
      have HB5 := Lib.hid (Base.then_below HSTT.out.2 b5)
      clear b5
      go_wp2
      go_loopw [7, 22] (fun _ i wr => ∃ k : Nat, k ≤ 4 ∧ i = .int .i64 (k : Int) ∧ Hid (St V.heap.size g5 b c1 n (tk s (full zs) k) wr) ∧ Hid (Below V.heap.size V wr)) (fun _ i _ => 4 - (intOf i).toNat)
      case atStart => exact ⟨0, by omega, rfl, HS5, HB5⟩
      case round =>
        clear HS5 HB5
        obtain ⟨k, hk, rfl, HS, HB⟩ := hrel
        have g0 := HS.out.1.cell 0 _ rfl
        have g1 := HS.out.1.cell 1 _ rfl
        have gf1 := HS.out.1.frz 1
        rw [hg5e] at g0 g1 gf1
        by_cases hlt : k < 4
        · have hii := HIX.out k hlt
          have hki : (k : Int) < 4 := by omega
          have hb := ix_bd k s
          have hj := ix_in k hlt s
          obtain ⟨c0, c1⟩ := st_cell HS.out hj
          have HTB := Lib.hid (in_get (HTK.out k (by omega)) (i := (ix k s).toNat) (by rw [tk_len, HFL.out]; exact hj))
          have HN := Lib.hid (st_count HS.out hj ((tk s (full zs) k).getD (ix k s).toNat 0 + 1))
          have HTM : Hid (tk s (full zs) (k + 1) = (tk s (full zs) k).set (ix k s).toNat ((tk s (full zs) k).getD (ix k s).toNat 0 + 1)) := Lib.hid rfl
          rw [← HTM.out] at HN
          have HBN : Hid (Below V.heap.size V (wr.setCell ⟨b, (ix k s).toNat, none⟩ (.int .i64 ((tk s (full zs) k).getD (ix k s).toNat 0 + 1)))) := Lib.hid (HB.out.setCell (p := ⟨b, _, none⟩) (st_lt HS.out) _)
          obtain ⟨z, hz⟩ : ∃ z, z = ix k s := ⟨_, rfl⟩
          rw [← hz] at hii hb hj c0 c1 HTB HN HBN
          clear hz HTM
          obtain ⟨j, rfl⟩ : ∃ j : Nat, z = (j : Int) := ⟨z.toNat, by omega⟩
          rw [Int.toNat_natCast] at hj c0 c1 HTB HN HBN
          generalize (tk s (full zs) k).getD j 0 = y at c0 HTB HN HBN
          have hyb := HTB.out
          have hj0 : (0 : Int) ≤ (j : Int) := by omega
          have hj1 : (j : Int) < 64 := by omega
          have hw : IntKind.i64.wrap (y + 1) = y + 1 := IntWalk.i64_in _ (by omega)
          clear HIX HC
          go_wp2
          go_roundw
          case rel => exact ⟨k + 1, by omega, by go_num, HN, HBN⟩
          case measure => simp [intOf]; omega
        · obtain rfl : k = 4 := by omega
          have HT := Lib.hid (st_total HS.out (n + 1))
          have HBT : Hid (Below V.heap.size V (wr.setCell ⟨g5, 1, none⟩ (.int .i64 (n + 1)))) := Lib.hid (HB.out.setCell (p := ⟨g5, 1, none⟩) (by show V.heap.size ≤ g5; omega) _)
          have hw : IntKind.i64.wrap (n + 1) = n + 1 := IntWalk.i64_in _ (by omega)
          have HIN : Hid (In 0 1000 (tk s (full zs) 4)) := Lib.hid (fun x hx => by have := HTK.out 4 (by omega) x hx; omega)
          have t0 := HT.out.1.cell 0 _ rfl
          have t1 := HT.out.1.cell 1 _ rfl
          obtain ⟨_, _, ⟨y2, y3⟩, y4, y5⟩ := FB.out _ HBT.out
          have HHV := Lib.hid (fun h => impl_halve V.heap.size g5 b c1 (n + 1) (tk s (full zs) 4) _ HT.out h HIN.out V HBT.out hg5 (Nat.le_refl _))
          rw [hg5e] at t0 t1 y2 y3 y4 y5 HHV
          by_cases h64 : n + 1 = 64
          · have HRV : Hid (res = (halfs (tk s (full zs) 4), 32)) := Lib.hid (by rw [HR.out, if_pos h64])
            have HHW := Lib.hid (HHV.out (by omega))
            rw [h64, show (64 : Int).tdiv 2 = 32 from rfl] at HHW
            clear HHV HR y2 y3 y4 y5
            go_wp2_with (fail)
            go_at_call 40
            refine HHW.out.mono ?_
            rintro e w8 ⟨rfl, hs8, hb8⟩
            have HF := Lib.hid (fin_st (w := w) (r := w.heap.size + 1) hs8 (Base.then_below HBV.out hb8) HBV.out.size (by omega) (by have := st_lt hs8; have := HVS.out; omega))
            obtain ⟨_, _, ⟨y2, y3⟩, y4, y5⟩ := FB.out _ hb8
            have r0 := hs8.1.cell 0 _ rfl
            have r1 := hs8.1.cell 1 _ rfl
            clear hs8 hb8 t0 t1 g0 g1 gf1
            go_wp2
            refine bodyPost_ret (v := .agg #[.slice (some ⟨b, 0, none⟩) 64 c1, .int .i64 32]) (by simp [results, Try.results10, go_sem, y2, y3]) rfl ⟨_, by rw [HRV.out], ?_, (HF.out _ _).2⟩
            rw [HRV.out]; exact (HF.out _ _).1
          · have h64b : ((n + 1 : Int) == 64) = false := beq_eq_false_iff_ne.2 h64
            have HRV : Hid (res = (tk s (full zs) 4, n + 1)) := Lib.hid (by rw [HR.out, if_neg h64])
            have HF := Lib.hid (fin_st (w := w) (r := w.heap.size + 1) HT.out (Base.then_below HBV.out HBT.out) HBV.out.size (by omega) (by have := st_lt HT.out; have := HVS.out; omega))
            rw [hg5e] at HF
            clear HHV HR
            go_wp2
            refine bodyPost_ret (v := .agg #[.slice (some ⟨b, 0, none⟩) 64 c1, .int .i64 (n + 1)]) (by simp [results, Try.results10, go_sem, y2, y3]) rfl ⟨_, by rw [HRV.out], ?_, (HF.out _ _).2⟩
            rw [HRV.out]; exact (HF.out _ _).1
end Go.Proofs.Ytebkhailknbnhaa.Sk
