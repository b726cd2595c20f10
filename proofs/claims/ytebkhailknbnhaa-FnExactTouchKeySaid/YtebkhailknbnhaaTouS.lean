/-
  CONTRACT of the model's TouchKey: at any sketch and key it gives the sketch touched, in memory of its own; nothing that was there before is changed.
-/
import Derived.Test.YtebkhailknbnhaaTouI
import Derived.Test.YtebkhailknbnhaaSkEsS
namespace Go.Proofs.Ytebkhailknbnhaa.Sk
open Go Go.RowKit
set_option linter.unusedVariables false
set_option maxRecDepth 1000000
set_option maxRecDepth 1000000

set_option maxHeartbeats 16000000 in
theorem spec_tou (v : Value) (zs : List Int) (n : Int) (s : List UInt8) (B : Nat) (w : World) (h : RH w B v zs) (hB : B ≤ w.heap.size) (hl : zs.length ≤ 1048576) (hs : s.length ≤ 1048576) :
    Calls Try.prog 8 #[.agg #[v, .int .i64 n], .string ⟨s.toArray⟩] w (TouEnd zs n s w) := by
  obtain ⟨i0, hi, hz0, hz1, hz2⟩ := info_parts Nums.info_int
  obtain ⟨av, cv, rfl, _⟩ := shape_n (rh_nums h)
  have k1 := Kept.Box.new (w := w) (T := 26) (a := #[.slice av zs.length cv, .int .i64 n])
  have k2 := Kept.Box.new (w := (w.alloc (.cells #[.slice av zs.length cv, .int .i64 n] 26))) (T := 26) (a := #[.slice none 0 0, .int .i64 0])
  have hsz : (w.alloc (.cells #[.slice av zs.length cv, .int .i64 n] 26)).heap.size = w.heap.size + 1 := by simp
  rw [hsz] at k2
  have k1 := k1.alloc (.cells #[.slice none 0 0, .int .i64 0] 26)
  have HB0 : Below w.heap.size w ((w.alloc (.cells #[.slice av zs.length cv, .int .i64 n] 26)).alloc (.cells #[.slice none 0 0, .int .i64 0] 26)) := ((Below.refl w.heap.size w).alloc (Nat.le_refl _) _).alloc (by simp) _
  have hVs : ((w.alloc (.cells #[.slice av zs.length cv, .int .i64 n] 26)).alloc (.cells #[.slice none 0 0, .int .i64 0] 26)).heap.size = w.heap.size + 1 + 1 := by simp
  obtain ⟨V, hV⟩ : ∃ V, V = ((w.alloc (.cells #[.slice av zs.length cv, .int .i64 n] 26)).alloc (.cells #[.slice none 0 0, .int .i64 0] 26)) := ⟨_, rfl⟩
  rw [← hV] at k1 k2 HB0 hVs
  have HM : RH V w.heap.size (.slice av zs.length cv) zs := Rec.holds_more (Rec.holds_below h (HB0.mono hB)) hB
  have FB : Hid (∀ u, Below V.heap.size V u → Two (.slice av zs.length cv) n w.heap.size V u) := Lib.hid (fun u hb => by
    have q1 := k1.below hb
    have q2 := k2.below hb
    exact ⟨q1.cell 0 _ rfl, q1.cell 1 _ rfl, ⟨q2.cell 0 _ rfl, q2.cell 1 _ rfl⟩, q2.frz 0, q2.frz 1⟩)
  have HCP := Lib.hid (fun u (hb : Below V.heap.size V u) => spec_cpsk (.slice av zs.length cv) zs n w.heap.size u (Rec.holds_below HM (hb.mono (by omega))) (Nat.le_trans HB0.size hb.size) hl)
  have HMU : Hid (∀ u, Below V.heap.size V u → RH u w.heap.size (.slice av zs.length cv) zs) := Lib.hid (fun u hb => Rec.holds_below HM (hb.mono (by omega)))
  have HIS := Lib.hid (spec_iss (.slice av zs.length cv) zs n V (rh_nums HM) hl)
  have HBV := Lib.hid HB0
  have HVS := Lib.hid hVs
  have HVV := Lib.hid hV
  have HC := Lib.hid (fun i hi W => text_hash_s i hi s W hs)
  have HRES : Hid (skOk zs n = false → touched zs n s = (zs, n)) := Lib.hid (fun e => by unfold touched; rw [if_neg (by rw [e]; decide)])
  have HRE2 : Hid (skOk zs n = true → touched zs n s = if n + 1 = 64 then (halfs (tk s (full zs) 4), 32) else (tk s (full zs) 4, n + 1)) := Lib.hid (fun e => by unfold touched; rw [if_pos e])
  unfold TouEnd
  obtain ⟨res, hres⟩ : ∃ r, r = touched zs n s := ⟨_, rfl⟩
  rw [← hres] at HRES HRE2 ⊢
  unfold CopiedO at HCP
  unfold BoolEnd at HIS
  clear h k1 k2 HB0 HM hres
  obtain ⟨v0, v1, ⟨v2, v3⟩, v4, v5⟩ := FB.out V (Below.refl _ _)
  rw [hV] at v0 v1 v2 v3 v4 v5
  clear hV
  go_enter Try.func8, Try.ntmps8
  go_wp2_with (fail)
  go_at_call 33
  rw [← HVV.out]
  refine HIS.out.mono ?_
  rintro e w3 ⟨rfl, b3⟩
  have HB3 := Lib.hid b3
  clear b3 HIS v0 v1 v2 v3 v4 v5
  obtain ⟨x0, x1, ⟨x2, x3⟩, x4, x5⟩ := FB.out _ HB3.out
  cases hok : skOk zs n with
  | false =>
    have HR := Lib.hid (HRES.out hok)
    clear hok HRES HRE2 HCP
    have HBD : Hid (Below V.heap.size V w3.drew) := Lib.hid (Rec.below_drew HB3.out)
    have HBA : Hid (Below V.heap.size V (w3.alloc (.cells #[] 3)).drew) := Lib.hid (Rec.below_drew (HB3.out.alloc HB3.out.size _))
    have HO3 : Hid ((w3.alloc (.cells #[] 3)).drew.ownsRow V.heap.size 3 1 (.slice (some ⟨w3.heap.size, 0, none⟩) 0 0) ([] : List Int).length (Rec.flat ics [])) := Lib.hid (i_nil (w := w3) HB3.out.size rfl)
    obtain ⟨d0, d1, ⟨d2, d3⟩, d4, d5⟩ := FB.out _ HBD.out
    obtain ⟨a0, a1, ⟨a2, a3⟩, a4, a5⟩ := FB.out _ HBA.out
    clear x0 x1 x2 x3 x4 x5
    go_upto_region 2 with fail
    go_region_held_law (fun u => u.cell? ⟨w.heap.size, 0, none⟩ = some (.slice av zs.length cv) ∧ u.cell? ⟨w.heap.size, 1, none⟩ = some (.int .i64 n))
      (first | exact ⟨d0, d1⟩ | exact ⟨a0, a1⟩ | exact ⟨e0, e1⟩ | go_keep)
      ((refine Rec.step_holds ics_len ics_one (by rfl) (.tmp 14) (.tmp 16) 22 3 (by rfl) Try.underlying22 hi hz0 hz1 hz2 (by rfl) (by decide) (by rfl) (by rfl) HO3.out (HMU.out _ HBA.out) (by unfold maxLen; simp; omega) (by simp; omega) HBA.out.size ?_; intro v1 w2 hown1 hgrow1; have HB2 : Hid (Below V.heap.size V w2) := Lib.hid (i_bg HBA.out HO3.out (Nat.le_refl _) hgrow1); obtain ⟨e0, e1, ⟨e2, e3⟩, e4, e5⟩ := FB.out _ HB2.out; obtain ⟨ar, cpr, rfl, _⟩ := Rec.shape_at hown1))
    have HF := Lib.hid (fin2 (w := w) (g := w.heap.size + 1) hown1 (fun k e => by have := (hown1.lt k e).1; have := HVS.out; omega) (by omega) HBV.out.size (Base.then_below HBV.out HB2.out))
    clear hown1 hgrow1 d0 d1 d2 d3 d4 d5 a0 a1 a2 a3 a4 a5
    rw [List.nil_append] at HF
    go_wp2
    refine bodyPost_ret (v := .agg #[.slice ar zs.length cpr, .int .i64 n]) (by simp [results, Try.results8, go_sem, e2, e3]) rfl ⟨_, by rw [HR.out], ?_, (HF.out _ _).2⟩
    rw [HR.out]; exact (HF.out _ _).1
  | true =>
    have HR := Lib.hid (HRE2.out hok)
    obtain ⟨hin, hlen, hn0, hn1⟩ := ok_in hok
    obtain ⟨hfin, hfl⟩ := full_in hok
    have HTK := Lib.hid (fun k hk => tk_in (s := s) hfin hfl k hk)
    have HFL := Lib.hid hfl
    have HC3 := Lib.hid (HCP.out _ HB3.out)
    clear hok HRES HRE2 hin hfin hfl HCP
    generalize full zs = fz at *
    go_wp2_with (fail)
    go_at_call 34
    refine HC3.out.mono ?_
    rintro e w4 ⟨u1, rfl, ho1, b4⟩
    have ho1 : w4.ownsRow w3.heap.size 3 1 u1 fz.length (fz.map (Value.int .i64)) := ho1
    rw [HFL.out] at ho1
    obtain ⟨a1, cp, rfl, hsh1⟩ := Rec.shape_at ho1
    obtain ⟨b, rfl⟩ := hsh1 (by decide)
    obtain ⟨g5, hg5e⟩ : ∃ g, g = w4.heap.size := ⟨_, rfl⟩
    have HB4 := Lib.hid (Base.then_below HB3.out b4)
    have hbl := ho1.lt b rfl
    have HS0 : Hid (St V.heap.size g5 b cp n (tk s fz 0) (w4.alloc (.cells #[.slice (some ⟨b, 0, none⟩) 64 cp, .int .i64 n] 26))) := Lib.hid (by
      have k := Kept.Box.new (w := w4) (T := 26) (a := #[.slice (some ⟨b, 0, none⟩) 64 cp, .int .i64 n])
      rw [← hg5e] at k
      exact ⟨k, Rec.own_mono (ho1.alloc _) HB3.out.size, by omega, HFL.out⟩)
    have HBA : Hid (Below V.heap.size V (w4.alloc (.cells #[.slice (some ⟨b, 0, none⟩) 64 cp, .int .i64 n] 26))) := Lib.hid (HB4.out.alloc HB4.out.size _)
    have hg5 : V.heap.size ≤ g5 := by have := HB4.out.size; omega
    clear ho1 b4 hsh1 HC3 HB3 x0 x1 x2 x3 x4 x5 hbl
    have hr : w.heap.size + 1 < g5 := by have := HVS.out; omega
    go_wp2
    go_loopw [6, 7] (fun i _ wr => ∃ k : Nat, k ≤ 4 ∧ i = .int .i64 (k : Int) ∧ Hid (St V.heap.size g5 b cp n (tk s fz k) wr) ∧ Hid (Below V.heap.size V wr)) (fun i _ _ => 4 - (intOf i).toNat)
    case atStart => exact ⟨0, by omega, rfl, HS0, HBA⟩
    case round =>
      clear HS0 HBA
      obtain ⟨k, hk, rfl, HS, HB⟩ := hrel
      by_cases hlt : k < 4
      · have hki : (k : Int) < 4 := by omega
        have hb := ix_bd k s
        have hh := Dg.hash_bd ((k : Int) :: Nums.bytes ⟨s.toArray⟩)
        have hxe : (k : Int) * 16 + Dg.hash ((k : Int) :: Nums.bytes ⟨s.toArray⟩) % 16 = ix k s := rfl
        have hj := ix_in k hlt s
        have HCK := Lib.hid (HC.out k hlt wr)
        unfold Dg.Text at HCK
        have HTB := Lib.hid (in_get (HTK.out k (by omega)) (i := (ix k s).toNat) (by rw [tk_len, HFL.out]; exact hj))
        have HTM : Hid (tk s fz (k + 1) = (tk s fz k).set (ix k s).toNat ((tk s fz k).getD (ix k s).toNat 0 + 1)) := Lib.hid rfl
        generalize Dg.hash ((k : Int) :: Nums.bytes ⟨s.toArray⟩) = hv at hh hxe HCK
        obtain ⟨hh0, hh1⟩ := hh
        obtain ⟨z, hz⟩ : ∃ z, z = ix k s := ⟨_, rfl⟩
        rw [← hz] at hb hxe hj HTB HTM
        clear hz
        obtain ⟨j, rfl⟩ : ∃ j : Nat, z = (j : Int) := ⟨z.toNat, by omega⟩
        rw [Int.toNat_natCast] at hj HTB HTM
        have htm : hv.tmod 16 = hv % 16 := Int.tmod_eq_emod_of_nonneg hh0
        have hw0 : IntKind.i64.wrap ((k : Int) * 16) = (k : Int) * 16 := IntWalk.i64_in _ (by omega)
        have hw1 : IntKind.i64.wrap ((k : Int) * 16 + hv % 16) = (j : Int) := by rw [hxe]; exact IntWalk.i64_in _ (by omega)
        go_wp2_with (fail)
        go_at_call 35
        refine HCK.out.mono ?_
        rintro e wq ⟨rfl, bq⟩
        have HSq := Lib.hid (st_below HS.out bq)
        have HBq := Lib.hid (Base.then_below HB.out bq)
        clear bq HS HB HCK
        obtain ⟨wd, hwd⟩ : ∃ wd, wd = wq.drew := ⟨_, rfl⟩
        have HSD : Hid (St V.heap.size g5 b cp n (tk s fz k) wd) := Lib.hid (by rw [hwd]; exact st_drew HSq.out)
        have HBD : Hid (Below V.heap.size V wd) := Lib.hid (by rw [hwd]; exact Rec.below_drew HBq.out)
        have HN := Lib.hid (st_count HSD.out hj ((tk s fz k).getD j 0 + 1))
        rw [← HTM.out] at HN
        have HBN : Hid (Below V.heap.size V (wd.setCell ⟨b, j, none⟩ (.int .i64 ((tk s fz k).getD j 0 + 1)))) := Lib.hid (HBD.out.setCell (p := ⟨b, _, none⟩) (st_lt HSD.out) _)
        obtain ⟨c0, c1⟩ := st_cell HSD.out hj
        have g0 := HSD.out.1.cell 0 _ rfl
        rw [hg5e] at g0
        generalize (tk s fz k).getD j 0 = y at c0 HTB HN HBN
        have hyb := HTB.out
        have hj0 : (0 : Int) ≤ (j : Int) := by omega
        have hj1 : (j : Int) < 64 := by omega
        have hw : IntKind.i64.wrap (y + 1) = y + 1 := IntWalk.i64_in _ (by omega)
        go_upto_region 8 with fail
        have c0' : wq.drew.cell? ⟨b, j, none⟩ = some (.int .i64 y) := by rw [← hwd]; exact c0
        have g0' : wq.drew.cell? ⟨w4.heap.size, 0, none⟩ = some (.slice (some ⟨b, 0, none⟩) 64 cp) := by rw [← hwd]; exact g0
        go_still_tail 10, (by kernel_rfl)
        change wpList _ _ _ _ _ wq.drew
        rw [← hwd]
        clear c0' g0' hwd
        go_wp2
        go_roundw
        case rel => exact ⟨k + 1, by omega, by go_num, HN, HBN⟩
        case measure => simp [intOf]; omega
      · have hk4 : k = 4 := by omega
        rw [hk4] at HS
        have hki : ¬ (k : Int) < 4 := by omega
        clear hk4
        have HIN := Lib.hid (HTK.out 4 (by omega))
        have HL4 : Hid ((tk s fz 4).length = 64) := Lib.hid (by rw [tk_len]; exact HFL.out)
        have g0 := HS.out.1.cell 0 _ rfl
        have g1 := HS.out.1.cell 1 _ rfl
        have gf1 := HS.out.1.frz 1
        have HT := Lib.hid (st_total HS.out (n + 1))
        have HBT : Hid (Below V.heap.size V (wr.setCell ⟨g5, 1, none⟩ (.int .i64 (n + 1)))) := Lib.hid (HB.out.setCell (p := ⟨g5, 1, none⟩) (by show V.heap.size ≤ g5; omega) _)
        have hw : IntKind.i64.wrap (n + 1) = n + 1 := IntWalk.i64_in _ (by omega)
        have t0 := HT.out.1.cell 0 _ rfl
        have t1 := HT.out.1.cell 1 _ rfl
        have tf1 := HT.out.1.frz 1
        obtain ⟨_, _, ⟨y2, y3⟩, y4, y5⟩ := FB.out _ HBT.out
        by_cases h64 : n + 1 = 64
        · have HRV : Hid (res = (halfs (tk s fz 4), 32)) := Lib.hid (by rw [HR.out, if_pos h64])
          have HU : Hid (St V.heap.size g5 b cp 32 (hpart (tk s fz 4) 0) ((wr.setCell ⟨g5, 1, none⟩ (.int .i64 64)).setCell ⟨g5, 1, none⟩ (.int .i64 32))) := Lib.hid (by have h9 := st_total HT.out 32; rw [h64] at h9; rw [hpart_zero]; exact h9)
          have HBU : Hid (Below V.heap.size V ((wr.setCell ⟨g5, 1, none⟩ (.int .i64 64)).setCell ⟨g5, 1, none⟩ (.int .i64 32))) := Lib.hid (by have h9 := HBT.out.setCell (p := ⟨g5, 1, none⟩) (by show V.heap.size ≤ g5; omega) (.int .i64 32); rw [h64] at h9; exact h9)
          have HALL : Hid (hpart (tk s fz 4) 64 = halfs (tk s fz 4)) := Lib.hid (hpart_all (by rw [HL4.out]; exact Nat.le_refl _))
          rw [hg5e] at g0 g1 gf1 t0 t1 tf1 y2 y3 y4 y5
          rw [h64] at t0 t1 tf1 y2 y3 y4 y5
          clear HR HT HBT HC HTK y2 y3 y4 y5
          go_wp2
          rw [← hg5e]
          clear hg5e
          go_loopw [8] (fun i wq => ∃ k : Nat, k ≤ 64 ∧ i = .int .i64 (k : Int) ∧ Hid (St V.heap.size g5 b cp 32 (hpart (tk s fz 4) k) wq) ∧ Hid (Below V.heap.size V wq)) (fun i _ => 64 - (intOf i).toNat)
          case atStart => exact ⟨0, by omega, rfl, HU, HBU⟩
          case round =>
            clear HU HBU
            obtain ⟨k, hk, rfl, HS2, HB2⟩ := hrel
            have g0 : wr.cell? ⟨g5, 0, none⟩ = some (.slice (some ⟨b, 0, none⟩) 64 cp) := HS2.out.1.cell 0 _ rfl
            have g1 : wr.cell? ⟨g5, 1, none⟩ = some (.int .i64 32) := HS2.out.1.cell 1 _ rfl
            by_cases hlt : k < 64
            · have hki : (k : Int) < 64 := by omega
              obtain ⟨wd, hwd⟩ : ∃ wd, wd = wr.drew := ⟨_, rfl⟩
              have HSD : Hid (St V.heap.size g5 b cp 32 (hpart (tk s fz 4) k) wd) := Lib.hid (by rw [hwd]; exact st_drew HS2.out)
              have HBD : Hid (Below V.heap.size V wd) := Lib.hid (by rw [hwd]; exact Rec.below_drew HB2.out)
              have HN := Lib.hid (st_count HSD.out hlt (((tk s fz 4).getD k 0).tdiv 2))
              have HLL := HL4.out
              rw [hpart_more (by omega)] at HN
              have HBN : Hid (Below V.heap.size V (wd.setCell ⟨b, k, none⟩ (.int .i64 (((tk s fz 4).getD k 0).tdiv 2)))) := Lib.hid (HBD.out.setCell (p := ⟨b, _, none⟩) (st_lt HSD.out) _)
              obtain ⟨c0, c1⟩ := st_cell HSD.out hlt
              rw [hpart_get (by omega)] at c0
              have h0 := HSD.out.1.cell 0 _ rfl
              have HYB := Lib.hid (in_get HIN.out (i := k) (by omega))
              generalize (tk s fz 4).getD k 0 = y at c0 HN HBN HYB
              have hyb := HYB.out
              have hyq : 0 ≤ y.tdiv 2 ∧ y.tdiv 2 ≤ 1000 := by rw [Int.tdiv_eq_ediv_of_nonneg hyb.1]; omega
              have hyw : IntKind.i64.wrap (y.tdiv 2) = y.tdiv 2 := IntWalk.i64_in _ (by omega)
              have c0' : wr.drew.cell? ⟨b, k, none⟩ = some (.int .i64 y) := by rw [← hwd]; exact c0
              have h0' : wr.drew.cell? ⟨g5, 0, none⟩ = some (.slice (some ⟨b, 0, none⟩) 64 cp) := by rw [← hwd]; exact h0
              go_upto_region 15 with fail
              go_still_tail 10, (by kernel_rfl)
              change wpList _ _ _ _ _ wr.drew
              rw [← hwd]
              clear c0' h0' hwd
              go_wp2
              go_roundw
              case rel => exact ⟨k + 1, by omega, by go_num, HN, HBN⟩
              case measure => simp [intOf]; omega
            · obtain rfl : k = 64 := by omega
              rw [HALL.out] at HS2
              obtain ⟨_, _, ⟨y2, y3⟩, y4, y5⟩ := FB.out _ HB2.out
              have HF := Lib.hid (fin_st (w := w) (r := w.heap.size + 1) HS2.out (Base.then_below HBV.out HB2.out) HBV.out.size (by omega) (by have := st_lt HS2.out; have := HVS.out; omega))
              go_wp2
              refine bodyPost_ret (v := .agg #[.slice (some ⟨b, 0, none⟩) 64 cp, .int .i64 32]) (by simp [results, Try.results8, go_sem, y2, y3]) rfl ⟨_, by rw [HRV.out], ?_, (HF.out _ _).2⟩
              rw [HRV.out]; exact (HF.out _ _).1
        · have h64b : ((n + 1 : Int) == 64) = false := beq_eq_false_iff_ne.2 h64
          have HRV : Hid (res = (tk s fz 4, n + 1)) := Lib.hid (by rw [HR.out, if_neg h64])
          have HF := Lib.hid (fin_st (w := w) (r := w.heap.size + 1) HT.out (Base.then_below HBV.out HBT.out) HBV.out.size (by omega) (by have := st_lt HT.out; have := HVS.out; omega))
          rw [hg5e] at HF g0 g1 gf1 t0 t1 tf1 y2 y3 y4 y5
          clear HR HC HTK
          go_wp2
          refine bodyPost_ret (v := .agg #[.slice (some ⟨b, 0, none⟩) 64 cp, .int .i64 (n + 1)]) (by simp [results, Try.results8, go_sem, y2, y3]) rfl ⟨_, by rw [HRV.out], ?_, (HF.out _ _).2⟩
          rw [HRV.out]; exact (HF.out _ _).1
end Go.Proofs.Ytebkhailknbnhaa.Sk
