/-
  THE WALK of the law of chapter 5.
-/
import Derived.Test.YtobhdfkhfmpdlaaDoorDrawFld
import Derived.Test.YtobhdfkhfmpdlaaDoorFldLw
import Derived.Test.YtobhdfkhfmpdlaaDoorFldPI
import Derived.Test.YtobhdfkhfmpdlaaDoorFldSame
import Derived.Test.YtobhdfkhfmpdlaaDoorRec
namespace Go.Proofs.YtobhdfkhfmpdlaaDoor.fnFields
open Go Go.RowKit
set_option linter.unusedVariables false
set_option maxRecDepth 1000000
set_option maxRecDepth 1000000

abbrev Bd (l : List Flds.Fld) : Prop := ∀ f ∈ l, f.1.length ≤ 15 ∧ f.2.length ≤ 9
theorem bd_total {l : List Flds.Fld} {n : Nat} (h : Bd l) (hn : l.length ≤ n) : Flds.total l ≤ 25 * n := by
  have hs : ∀ q : List Flds.Fld, Bd q → (q.map Flds.wt).sum ≤ 24 * q.length := by
    intro q
    induction q with
    | nil => intro _; simp
    | cons a r ih =>
      intro hq
      have h1 := hq a (List.mem_cons_self ..)
      have h2 := ih (fun f hf => hq f (List.mem_cons_of_mem _ hf))
      rw [List.map_cons, List.sum_cons, List.length_cons]
      unfold Flds.wt at *
      omega
  have h1 := hs l h
  unfold Flds.total
  omega
theorem bd_setl {n : List UInt8} : ∀ {s : Bool} {l : List Flds.Fld}, ∀ f ∈ Flds.setl n s l, f ∈ l
  | _, [], f, h => by simp [Flds.setl] at h
  | s, a :: r, f, h => by
    unfold Flds.setl at h
    split at h
    · split at h
      · exact List.mem_cons_of_mem _ (bd_setl f h)
      · rcases List.mem_cons.1 h with e | h
        · rw [e]; exact List.mem_cons_self ..
        · exact List.mem_cons_of_mem _ (bd_setl f h)
    · rcases List.mem_cons.1 h with e | h
      · rw [e]; exact List.mem_cons_self ..
      · exact List.mem_cons_of_mem _ (bd_setl f h)
theorem bd_fin {n u : List UInt8} {l : List Flds.Fld} (h : Bd l) (hn : n.length ≤ 15) (hu : u.length ≤ 9) : Bd (Flds.fin n u l) := by
  intro f hf
  unfold Flds.fin at hf
  rcases List.mem_append.1 hf with hf | hf
  · obtain ⟨g, hg, rfl⟩ := List.mem_map.1 hf
    have hh := h g (bd_setl g hg)
    unfold Flds.pv
    split
    · exact ⟨hh.1, hu⟩
    · exact hh
  · split at hf
    · cases hf
    · rw [List.mem_singleton] at hf; subst hf; exact ⟨hn, hu⟩
theorem bd_merged {l m : List Flds.Fld} (h : Bd l) (h2 : Bd m) : Bd (Flds.merged l m) := by
  intro f hf
  unfold Flds.merged Flds.keepm at hf
  rcases List.mem_append.1 hf with hf | hf
  · exact h f (List.mem_filter.1 hf).1
  · exact h2 f hf
theorem merged_len (l m : List Flds.Fld) : (Flds.merged l m).length ≤ l.length + m.length := by
  unfold Flds.merged Flds.keepm; rw [List.length_append]; have := List.length_filter_le (fun f => !Flds.has m f.1) l; omega
theorem bd_keepn {n : List UInt8} {l : List Flds.Fld} (h : Bd l) : Bd (Flds.keepn n l) := fun f hf => h f (List.mem_filter.1 hf).1
theorem fmt_short {l : List Flds.Fld} : (Flds.fmt l).length ≤ Flds.total l + 4 * l.length := by
  have h1 := Flds.fmt_len l l.length (Nat.le_refl _)
  have h2 := Flds.pre_le l l.length
  rw [List.take_length] at h1
  omega
theorem get_yes (v : Value) (B : Nat) (l : List Flds.Fld) (n u : List UInt8) (w : World) (h : Flds.Holds w B v l) (hB : B ≤ w.heap.size) (hl : Flds.total l ≤ 1048576) (hv : Flds.vals n l = [u]) :
    Calls Tryd.prog 15 #[v, .string ⟨n.toArray⟩] w (fun e w' => e = .returned (.tuple #[.string ⟨u.toArray⟩, .bool true]) ∧ Below w.heap.size w w') := by
  refine (Flds.impl_get v B l n w h hB hl).mono ?_
  rintro e w' ⟨he, hb⟩
  rw [hv, Tx.join_one] at he
  exact ⟨he, hb⟩
theorem get_no (v : Value) (B : Nat) (l : List Flds.Fld) (n : List UInt8) (w : World) (h : Flds.Holds w B v l) (hB : B ≤ w.heap.size) (hl : Flds.total l ≤ 1048576) (hv : Flds.vals n l = []) :
    Calls Tryd.prog 15 #[v, .string ⟨n.toArray⟩] w (fun e w' => e = .returned (.tuple #[.string ⟨#[]⟩, .bool false]) ∧ Below w.heap.size w w') := by
  refine (Flds.impl_get v B l n w h hB hl).mono ?_
  rintro e w' ⟨he, hb⟩
  rw [hv, Tx.join_nil] at he
  exact ⟨he, hb⟩
theorem get_is (v : Value) (B : Nat) (l : List Flds.Fld) (n : List UInt8) (xs : List (List UInt8)) (w : World) (h : Flds.Holds w B v l) (hB : B ≤ w.heap.size) (hl : Flds.total l ≤ 1048576) (hv : Flds.vals n l = xs) :
    Calls Tryd.prog 15 #[v, .string ⟨n.toArray⟩] w (fun e w' => e = .returned (.tuple #[.string ⟨(Tx.join xs).toArray⟩, .bool (decide (0 < xs.length))]) ∧ Below w.heap.size w w') := by
  refine (Flds.impl_get v B l n w h hB hl).mono ?_
  rintro e w' ⟨he, hb⟩
  rw [hv] at he
  exact ⟨he, hb⟩
theorem same_yes (v v' : Value) (B B' : Nat) (l : List Flds.Fld) (w : World) (h : Flds.Holds w B v l) (h' : Flds.Holds w B' v' l) (h1 : l.length ≤ 1048576) :
    Calls Tryd.prog 17 #[v, v'] w (fun e w' => e = .returned (.bool true) ∧ Below w.heap.size w w') := by
  refine (Flds.impl_same v v' B B' l l w h h' h1 h1).mono ?_
  rintro e w' ⟨he, hb⟩
  rw [decide_eq_true rfl] at he
  exact ⟨he, hb⟩
theorem own_at {w w' : World} {B : Nat} {v : Value} {l : List Flds.Fld} (h : Flds.Own w B v l) (hb : Below w.heap.size w w') : Flds.Own w' B v l := Flds.row_below h hb

set_option maxHeartbeats 8000000 in
theorem walk (b0 : Option Addr) (l0 c0 : Nat) (w0 : l0 ≤ maxLen) (w : World) (y0 : l0 ≤ 1048576 → Cur.Bytes w w.heap.size (.slice b0 l0 c0)) (hmx : Sh.MxL w) :
    Calls Tryd.prog 4 #[.slice b0 l0 c0] w fun e w' => e = .returned (.bool true) ∧ Below w.heap.size w w' := by
  clear w0
  by_cases hbig : 1048576 < (l0 : Int)
  · go_enter Tryd.func4, Tryd.ntmps4
    go_wp2_with (go_at_call 5; refine (Cur.big_yes _ _ _ _ hbig).mono ?_; rintro e w' ⟨rfl, rfl⟩)
    go_ret
    exact ⟨rfl, Below.refl _ _⟩
  have HBY := Lib.hid (y0 (by omega))
  have HMX := Lib.hid hmx
  clear y0 hmx
  go_enter Tryd.func4, Tryd.ntmps4
  go_wp2_with (fail)
  go_at_call 5
  refine (Cur.big_no _ _ _ _ (by omega)).mono ?_
  rintro e w' ⟨rfl, rfl⟩
  go_wp2_with (fail)
  go_at_call 13
  refine (Cur.draw_sf _ _ _ HBY.out (Nat.le_refl _)).mono ?_
  rintro e w1 ⟨v, l, n, u, rfl, ⟨hl5, hbd⟩, hn, hu, ho, b1⟩
  have B1 := Lib.hid b1
  have HO1 := Lib.hid ho
  have HBF := Lib.hid (bd_fin (n := n) (u := u) hbd (by omega) (by omega))
  have HBL := Lib.hid hbd
  have HKL := Lib.hid (Flds.keepn_le n l)
  have hfl : (Flds.fin n u l).length ≤ 6 := Nat.le_trans (Flds.fin_len n u l) (by omega)
  have HSET := Lib.hid (Flds.impl_set v _ l n u w1 (Flds.own_holds ho) (Nat.le_refl _) (by omega))
  have HV := Lib.hid (Flds.vals_fin n u l)
  have HK := Lib.hid (Flds.keepn_fin n u l)
  have HFL := Lib.hid (Flds.fin_keepn_len n u l)
  have HDL := Lib.hid (fun W (hb : Below w1.heap.size w1 W) => Flds.impl_drop v W.heap.size l n W (Flds.own_holds (own_at ho hb)) (Nat.le_refl _) (by omega))
  unfold Flds.FilterEnd at HSET HDL
  generalize Flds.fin n u l = X at HBF hfl HSET HV HK HFL
  have HXT := Lib.hid (bd_total HBF.out hfl)
  have HVK := Lib.hid (Flds.vals_keepn n X)
  have HDK := Lib.hid (fun W v' (h : Flds.Holds W W.heap.size v' X) => Flds.impl_drop v' W.heap.size X n W h (Nat.le_refl _) (by omega))
  unfold Flds.FilterEnd at HDK
  rw [HK.out] at HDK HVK
  have hkl : (Flds.keepn n l).length ≤ 5 := Nat.le_trans HKL.out hl5
  have HKB := Lib.hid (bd_keepn (n := n) hbd)
  generalize Flds.keepn n l = K at HKL HK HFL HDL HVK HDK hkl HKB
  have HKT := Lib.hid (bd_total HKB.out hkl)
  clear b1 ho hbd hn hu hl5 HBL HKL HKB HK
  go_wp2_with (fail)
  go_at_call 14
  refine HSET.out.mono ?_
  rintro e w2 ⟨vx, rfl, ox, b2⟩
  have HX2 := Lib.hid ox
  have HB12 := Lib.hid b2
  have B2 := Lib.hid (Base.then_below B1.out b2)
  have HG2 := Lib.hid (get_yes vx _ X n u w2 (Flds.own_holds ox) (Nat.le_refl _) (Nat.le_trans HXT.out (by decide)) HV.out)
  obtain ⟨ax, cx, rfl, _⟩ := Flds.shape_of ox
  clear ox b2 HSET B1
  go_wp2_with (fail)
  go_at_call 15
  refine HG2.out.mono ?_
  rintro e w3 ⟨rfl, b3⟩
  have HX3 := Lib.hid (own_at HX2.out b3)
  have HB13 := Lib.hid (HB12.out.trans (b3.mono HB12.out.size))
  have B3 := Lib.hid (Base.then_below B2.out b3)
  have HD3 := Lib.hid (HDK.out w3 _ (Flds.own_holds HX3.out))
  clear b3 HX2 HB12 B2 HG2 HDK
  go_wp2_with (fail)
  go_at_call 16
  refine HD3.out.mono ?_
  rintro e w4 ⟨vd, rfl, od, b4⟩
  have HD4 := Lib.hid od
  have HB14 := Lib.hid (HB13.out.trans (b4.mono HB13.out.size))
  have B4 := Lib.hid (Base.then_below B3.out b4)
  have HG4 := Lib.hid (get_no vd _ K n w4 (Flds.own_holds od) (Nat.le_refl _) (Nat.le_trans HKT.out (by decide)) HVK.out)
  obtain ⟨ad, cd, rfl, _⟩ := Flds.shape_of od
  clear od b4 HB13 B3 HD3 HX3
  go_wp2_with (fail)
  go_at_call 15
  refine HG4.out.mono ?_
  rintro e w5 ⟨rfl, b5⟩
  have HD5 := Lib.hid (own_at HD4.out b5)
  have HB15 := Lib.hid (HB14.out.trans (b5.mono HB14.out.size))
  have B5 := Lib.hid (Base.then_below B4.out b5)
  have HL5 := Lib.hid (HDL.out w5 HB15.out)
  clear b5 HB14 B4 HG4 HD4 HDL
  go_wp2_with (fail)
  go_at_call 16
  refine HL5.out.mono ?_
  rintro e w6 ⟨ve, rfl, oe, b6⟩
  have HS6 := Lib.hid (same_yes _ _ _ _ K w6 (Flds.own_holds (own_at HD5.out b6)) (Flds.own_holds oe) (by omega))
  have B6 := Lib.hid (Base.then_below B5.out b6)
  clear b6 oe HD5 B5 HB15 HL5
  go_wp2_with (fail)
  go_at_call 17
  refine HS6.out.mono ?_
  rintro e w7 ⟨rfl, b7⟩
  have B7 := Lib.hid (Base.then_below B6.out b7)
  clear b7 HS6 B6
  have hxl : (X.length : Int) = (K.length : Int) + 1 := by have := HFL.out; omega
  have hxk : ((X.length : Int) != (K.length : Int) + 1) = false := by rw [hxl]; simp
  go_wp2_with (fail)
  go_at_call 18
  refine (Cur.draw_mf _ _ _ (Cur.bytes_below HBY.out B7.out) B7.out.size).mono ?_
  rintro e w8 ⟨va, vb, la, lb, rfl, ⟨ha5, hba⟩, ⟨hb5, hbb⟩, ⟨gb, cb, rfl⟩, oa, ob, b8⟩
  have B8 := Lib.hid (Base.then_below B7.out b8)
  have HLB := Lib.hid ob
  have HM := Lib.hid (Flds.impl_merge va _ _ gb cb la lb w8 (Flds.own_holds oa) (Nat.le_refl _) rfl (Flds.own_mono ob (B' := 0) (Nat.zero_le _)) (by omega) (by omega))
  have HBM := Lib.hid (bd_merged hba hbb)
  have hml : (Flds.merged la lb).length ≤ 10 := Nat.le_trans (merged_len la lb) (by omega)
  have HVM := Lib.hid (fun f (hf : f ∈ lb) => Flds.vals_merged la hf)
  have HBT := Lib.hid (bd_total hbb hb5)
  unfold Flds.FilterEnd at HM
  generalize Flds.merged la lb = M at HM HBM hml HVM
  have HMT := Lib.hid (bd_total HBM.out hml)
  clear b8 oa ob B7 hxl hxk hfl hkl HXT HKT HVK HV HFL HBF ha5 hba hbb
  go_wp2_with (fail)
  go_at_call 19
  refine HM.out.mono ?_
  rintro e w9 ⟨vm, rfl, om, b9⟩
  have B9 := Lib.hid (Base.then_below B8.out b9)
  have HM9 := Lib.hid om
  have HL9 := Lib.hid (own_at HLB.out b9)
  clear b9 om B8 HLB HM
  go_wp2
  go_loopw [15] (fun i wr => ∃ k : Nat, k ≤ lb.length ∧ i = .int .i64 (k : Int) ∧ Hid (Below w9.heap.size w9 wr)) (fun i _ => lb.length - (intOf i).toNat)
  case atStart => exact ⟨0, Nat.zero_le _, rfl, Lib.hid (Below.refl _ _)⟩
  case round =>
    obtain ⟨k, hk, rfl, HG⟩ := hrel
    by_cases hlt : k < lb.length
    · have hol := own_at HL9.out HG.out
      have hom := own_at HM9.out HG.out
      obtain ⟨c0, c1⟩ := Flds.own_cell (g := gb) hol hlt
      have HMEM := Lib.hid (HVM.out _ (Rec.getD_mem (z := Flds.nofld) hlt))
      generalize lb.getD k Flds.nofld = f at c0 c1 HMEM
      obtain ⟨fx, fy⟩ := f
      unfold Flds.sv at c0 c1
      dsimp only at c0 c1 HMEM
      have HGM := Lib.hid (get_is vm _ M fx _ wr (Flds.own_holds hom) (Nat.le_refl _) (Nat.le_trans HMT.out (by decide)) HMEM.out)
      have HGL := Lib.hid (fun W (hb : Below wr.heap.size wr W) => get_is (.slice (some ⟨gb, 0, none⟩) lb.length cb) W.heap.size lb fx _ W (Flds.own_holds (own_at hol hb)) (Nat.le_refl _) (Nat.le_trans HBT.out (by decide)) rfl)
      have HC := Lib.hid (And.intro c0 (Rec.lt_of_cell c0))
      have hki : (k : Int) < (lb.length : Int) := by omega
      generalize Flds.vals fx lb = xs at HGM HGL
      generalize Tx.join xs = jx at HGM HGL
      generalize decide (0 < xs.length) = dx at HGM HGL
      clear hol hom HMEM c1
      go_wp2_with (fail)
      go_at_call 15
      refine HGM.out.mono ?_
      rintro e wa ⟨rfl, ba⟩
      clear c0
      have c0 := (ba.cell (p := ⟨gb, k * 2, none⟩) HC.out.2).trans HC.out.1
      have HGA := Lib.hid (HG.out.trans (ba.mono HG.out.size))
      have HGB := Lib.hid (HGL.out wa ba)
      clear ba HGM HGL
      go_wp2_with (fail)
      go_at_call 15
      refine HGB.out.mono ?_
      rintro e wb ⟨rfl, bb⟩
      have HGC := Lib.hid (HGA.out.trans (bb.mono HGA.out.size))
      clear bb HGB c0 HC
      go_wp2
      go_roundw
      case rel => exact ⟨k + 1, by omega, by go_num, HGC⟩
      case measure => simp [intOf]; omega
    · have B10 := Lib.hid (Base.then_below B9.out HG.out)
      clear HL9 HM9 HVM HMT HBT HG B9 HBM hml
      go_wp2_with (fail)
      go_at_call 20
      refine (Cur.draw_ff _ _ _ (Cur.bytes_below HBY.out B10.out) B10.out.size).mono ?_
      rintro e wc ⟨vf, lf, rfl, ⟨hf5, hfb⟩, of, bc⟩
      have B11 := Lib.hid (Base.then_below B10.out bc)
      have hft := bd_total hfb hf5
      have hfs : (Flds.fmt lf).length ≤ 145 := Nat.le_trans fmt_short (by omega)
      have HF11 := Lib.hid of
      have HFM := Lib.hid (Flds.impl_fmt_any vf _ lf wc (Flds.own_holds of) (Nat.le_refl _) (by omega))
      have HPR := Lib.hid (fun W (hb : Below w.heap.size w W) => Flds.impl_pfr (Flds.fmt lf) W (by omega) (Sh.mxl_below HMX.out hb))
      have HYES := Lib.hid (fun h => Flds.pfr_fmt (l := lf) h)
      unfold Flds.FmtEnd at HFM
      unfold Flds.PfrEnd at HPR
      generalize Flds.fmt lf = tx at HFM HPR HYES
      obtain ⟨mp, rd, hmr⟩ : ∃ mp rd, Flds.pfr tx = (mp, rd) := ⟨_, _, rfl⟩
      rw [hmr] at HPR HYES
      dsimp only at HPR
      clear bc of hfb hmr B10 hfs
      go_wp2_with (fail)
      go_at_call 22
      refine HFM.out.mono ?_
      rintro e wd ⟨rfl, bd⟩
      have B12 := Lib.hid (Base.then_below B11.out bd)
      have HF12 := Lib.hid (own_at HF11.out bd)
      have HP12 := Lib.hid (HPR.out wd B12.out)
      clear bd B11 HF11 HFM HPR
      go_wp2_with (fail)
      go_at_call 21
      refine HP12.out.mono ?_
      rintro e we ⟨vp, rfl, op, be⟩
      have B13 := Lib.hid (Base.then_below B12.out be)
      have HF13 := Lib.hid (own_at HF12.out be)
      have HP13 := Lib.hid op
      have HAF := Lib.hid (Flds.spec_are vf _ lf we (Flds.own_holds HF13.out) (Nat.le_refl _) (by omega))
      unfold Flds.AreEnd at HAF
      clear be op B12 HF12 HP12
      cases hok : Flds.fldsOk lf with
      | false =>
        rw [hok] at HAF
        clear HYES hok
        go_wp2_with (fail)
        go_at_call 23
        refine HAF.out.mono ?_
        rintro e wf ⟨rfl, bf⟩
        have B14 := Lib.hid (Base.then_below B13.out bf)
        clear bf B13 HAF
        go_wp2
        go_ret
        exact ⟨rfl, B14.out⟩
      | true =>
        have hy := HYES.out hok
        rw [Prod.mk.injEq] at hy
        obtain ⟨e1, e2⟩ := hy
        subst e1
        subst e2
        have HAI := Lib.hid (fun W (hb : Below we.heap.size we W) => Flds.impl_are vp W.heap.size mp W (Flds.own_holds (own_at HP13.out hb)) (Nat.le_refl _) (by omega))
        have HSM := Lib.hid (fun W (hb : Below we.heap.size we W) => same_yes vp vf W.heap.size W.heap.size mp W (Flds.own_holds (own_at HP13.out hb)) (Flds.own_holds (own_at HF13.out hb)) (by omega))
        unfold Flds.AreEnd at HAI
        rw [hok] at HAF HAI
        clear HYES hok HP13 HF13
        go_wp2_with (fail)
        go_at_call 23
        refine HAF.out.mono ?_
        rintro e wf ⟨rfl, bf⟩
        have B14 := Lib.hid (Base.then_below B13.out bf)
        have HBF := Lib.hid bf
        have HSF := Lib.hid (HSM.out wf bf)
        clear bf B13 HAF HSM
        go_wp2_with (fail)
        go_at_call 17
        refine HSF.out.mono ?_
        rintro e wg ⟨rfl, bg⟩
        have B15 := Lib.hid (Base.then_below B14.out bg)
        have HAG := Lib.hid (HAI.out wg (HBF.out.trans (bg.mono HBF.out.size)))
        clear bg B14 HSF HAI HBF
        go_wp2_with (fail)
        go_at_call 24
        refine HAG.out.mono ?_
        rintro e wh ⟨rfl, bh⟩
        have B16 := Lib.hid (Base.then_below B15.out bh)
        clear bh B15 HAG
        go_wp2
        go_ret
        exact ⟨rfl, B16.out⟩
end Go.Proofs.YtobhdfkhfmpdlaaDoor.fnFields
