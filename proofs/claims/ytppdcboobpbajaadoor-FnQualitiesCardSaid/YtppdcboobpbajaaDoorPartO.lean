/-
  CONTRACTS AND PLAIN FACTS, several texts in one; each says in its own words what it proves.
-/
import Derived.Test.YtppdcboobpbajaaDoorPartE
import Derived.Test.YtppdcboobpbajaaDoorPartN
import Derived.Test.YtppdcboobpbajaaDoorPartJ
import Derived.Test.YtppdcboobpbajaaDoorPartI
import Derived.Stop.LaidErr
set_option linter.unusedSimpArgs false
set_option linter.unusedVariables false

/-
  THE WALK of the law of chapter 13.
-/
namespace Go.Proofs.YtppdcboobpbajaaDoor.fnQualities
open Go Go.RowKit
set_option linter.unusedVariables false
set_option maxRecDepth 1000000

theorem tok_t (a : List UInt8) (hl : a.length ≤ 1048576) (h : Tx.token a = true) (W : World) : Calls Tryd.prog 7 #[.string ⟨a.toArray⟩] W fun e w' => e = .returned (.bool true) ∧ Below W.heap.size W w' := by
  refine (Tx.impl_token ⟨a.toArray⟩ W (by simp [ByteArray.size]; omega)).mono ?_
  rintro e w' ⟨he, rfl⟩
  refine ⟨?_, Below.refl _ _⟩
  rw [he]; show Ending.returned (.bool (Tx.token a)) = _; rw [h]
/-- What the second loop has found so far. -/
def bst (p k : Nat) : Int := if k ≤ p then -1 else (p : Int)
theorem bst_lo {p k : Nat} (h : k ≤ p) : bst p k = -1 := if_pos h
theorem bst_hi {p k : Nat} (h : p < k) : bst p k = (p : Int) := if_neg (by omega)

set_option maxHeartbeats 8000000 in
theorem walk (b0 : Option Addr) (l0 c0 : Nat) (w0 : l0 ≤ maxLen) (w : World) (y0 : l0 ≤ 1048576 → Cur.Bytes w w.heap.size (.slice b0 l0 c0)) (her : Par.Errs w) (hmx : Sh.MxL w) :
    Calls Tryd.prog 3 #[.slice b0 l0 c0] w fun e w' => e = .returned (.bool true) ∧ Below w.heap.size w w' := by
  clear w0
  by_cases hbig : 1048576 < (l0 : Int)
  · go_enter Tryd.func3, Tryd.ntmps3
    go_wp2_with (go_at_call 4; refine (Cur.big_yes _ _ _ _ hbig).mono ?_; rintro e w' ⟨rfl, rfl⟩)
    go_ret
    exact ⟨rfl, Below.refl _ _⟩
  have HBY := Lib.hid (y0 (by omega))
  have HER := Lib.hid her
  have HMX := Lib.hid hmx
  clear y0 her hmx
  go_enter Tryd.func3, Tryd.ntmps3
  go_wp2_with (fail)
  go_at_call 4
  refine (Cur.big_no _ _ _ _ (by omega)).mono ?_
  rintro e w' ⟨rfl, rfl⟩
  go_wp2_with (fail)
  go_at_call 6
  refine (Cur.draw_pq _ _ _ HBY.out (Nat.le_refl _)).mono ?_
  rintro e w1 ⟨s, hs, rfl, b1⟩
  have B1 := Lib.hid b1
  have HP := Lib.hid (Qua.impl_pqs s w1 (by omega) (Par.errs_below HER.out b1) (Sh.mxl_below HMX.out b1))
  have HOK := Lib.hid (fun f hf => Qua.pqs_ok s f hf)
  have hql : (Qua.pqs s).length ≤ 49 := Nat.le_trans (Qua.pqs_len s) (by omega)
  have HNL : Hid (s.length ≤ 48) := Lib.hid hs
  unfold Qua.Parsed at HP
  generalize Qua.pqs s = qs at HP HOK hql
  clear b1 hs
  go_wp2_with (fail)
  go_at_call 5
  refine HP.out.mono ?_
  rintro e w2 ⟨vq, rfl, oq, b2⟩
  have B2 := Lib.hid (Base.then_below B1.out b2)
  obtain ⟨aq, cq, rfl, haq⟩ := Qua.shape (Qua.own_holds oq)
  have HAQ := Lib.hid haq
  clear b2 oq haq HP B1
  go_wp2
  go_loopw [4] (fun i wr => ∃ k : Nat, k ≤ qs.length ∧ i = .int .i64 (k : Int) ∧ Hid (Qua.GrowS w w2 wr)) (fun i _ => qs.length - (intOf i).toNat)
  case atStart => exact ⟨0, Nat.zero_le _, rfl, Lib.hid ⟨Below.refl _ _, B2.out⟩⟩
  case round =>
    obtain ⟨k, hk, rfl, HG⟩ := hrel
    by_cases hlt : k < qs.length
    · obtain ⟨b, off, rfl, hbq, hat⟩ := HAQ.out (by omega)
      obtain ⟨c0, c1⟩ := Qua.at_cells (Qua.at_below hat HG.out.1 hbq) hlt
      obtain ⟨hq0, hq1, hq2, hq3⟩ := HOK.out _ (Rec.getD_mem (z := Qua.nov) hlt)
      generalize qs.getD k Qua.nov = f at c0 c1 hq0 hq1 hq2 hq3
      obtain ⟨n, q⟩ := f
      dsimp only at c0 c1 hq0 hq1 hq2 hq3
      have HT := Lib.hid (tok_t n (by have := HNL.out; omega) hq2)
      have hki : (k : Int) < (qs.length : Int) := by omega
      have hn0 : ¬ q < 0 := by omega
      have hn1 : ¬ 1000 < q := by omega
      clear hq2 hq3 hat hq0 hq1
      go_wp2_with (fail)
      go_at_call 7
      refine (HT.out _).mono ?_
      rintro e w3 ⟨rfl, b3⟩
      have HBB := Lib.hid (And.intro b3 (Base.then_below HG.out.2 b3))
      clear b3 c0 c1
      go_wp2
      go_roundw
      case rel => exact ⟨k + 1, by omega, by go_num, Lib.hid ⟨HG.out.1.trans (HBB.out.1.mono HG.out.1.size), HBB.out.2⟩⟩
      case measure => simp [intOf]; omega
    · clear HAQ HOK
      have B3 := Lib.hid HG.out.2
      clear HG B2
      go_wp2_with (fail)
      go_at_call 8
      refine (Cur.draw_cn _ _ _ (Cur.bytes_below HBY.out B3.out) B3.out.size).mono ?_
      rintro e w4 ⟨vn, zs, t, rfl, hzl, htl, on, b4⟩
      have hs4 := b4.size
      have B4 := Lib.hid (Base.then_below B3.out b4)
      have HN := Lib.hid (Strs.own_holds on)
      have HCA := Lib.hid (fun h => Qua.cho_at zs t h)
      have HCN := Lib.hid (fun h => Qua.cho_nil (zs := zs) t h)
      have HC := Lib.hid (Qua.impl_cho vn _ zs t w4 HN.out (Nat.le_refl _) (by omega) (by omega) (Par.errs_below HER.out B4.out) (Sh.mxl_below HMX.out B4.out))
      have HPT := Lib.hid (fun W (hb : Below w.heap.size w W) => Qua.impl_pqs t W (by omega) (Par.errs_below HER.out hb) (Sh.mxl_below HMX.out hb))
      have hml : (Qua.pqs t).length ≤ 49 := Nat.le_trans (Qua.pqs_len t) (by omega)
      unfold Qua.Parsed at HPT
      unfold Qua.TxtEnd at HC
      generalize Qua.cho zs t = x at HCA HCN HC
      generalize Qua.pqs t = ms at HCA HPT hml
      have HML := Lib.hid hml
      obtain ⟨an, cn, rfl, han⟩ := Qua.shape_s HN.out
      have HAN := Lib.hid han
      clear b4 B3 on han hml
      go_wp2_with (fail)
      go_at_call 9
      refine HC.out.mono ?_
      rintro e w5 ⟨rfl, b5⟩
      have B5 := Lib.hid (Base.then_below B4.out b5)
      have HB45 := Lib.hid b5
      clear b5 B4 HC
      go_wp2_with (fail)
      go_at_call 5
      refine (HPT.out _ B5.out).mono ?_
      rintro e w6 ⟨vm, rfl, om, b6⟩
      have B6 := Lib.hid (Base.then_below B5.out b6)
      have HB46 := Lib.hid (HB45.out.trans (b6.mono HB45.out.size))
      have HM := Lib.hid (Qua.own_holds om)
      obtain ⟨am, cm, rfl, _⟩ := Qua.shape HM.out
      clear b6 B5 HB45 om HPT
      by_cases hz0 : zs.length = 0
      · have hx := HCN.out hz0
        subst hx
        clear HCN HCA HAN HM HN
        rw [hz0]
        go_wp2
        go_loopw [9, 10] (fun bb i wr => bb = .int .i64 (-1) ∧ i = .int .i64 0 ∧ wr = w6) (fun _ _ _ => 0)
        case atStart => exact ⟨rfl, rfl, rfl⟩
        case round =>
          obtain ⟨rfl, rfl, rfl⟩ := hrel
          go_wp2
          go_ret
          exact ⟨rfl, B6.out⟩
      obtain ⟨p, hp, hpx, hle, hlo⟩ := HCA.out (by omega)
      have HPX := Lib.hid hpx
      have HLE := Lib.hid hle
      have HLO := Lib.hid hlo
      clear HCA HCN hpx hle hlo
      have hzl' := hzl
      go_wp2
      go_loopw [9, 10] (fun bb i wr => ∃ k : Nat, k ≤ zs.length ∧ i = .int .i64 (k : Int) ∧ bb = .int .i64 (bst p k) ∧ Hid (Qua.GrowS w w6 wr)) (fun _ i _ => zs.length - (intOf i).toNat)
      case atStart => exact ⟨0, Nat.zero_le _, rfl, by rw [bst_lo (Nat.zero_le _)], Lib.hid ⟨Below.refl _ _, B6.out⟩⟩
      case round =>
        obtain ⟨k, hk, rfl, rfl, HG⟩ := hrel
        by_cases hlt : k < zs.length
        · obtain ⟨b, off, rfl, hbn, _, hat⟩ := HAN.out (by omega)
          have c0 := Strs.at_below hat (HB46.out.trans (HG.out.1.mono HB46.out.size)) hbn k hlt
          have HQ := Lib.hid (HLE.out k hlt)
          have HQ2 := Lib.hid (fun h => HLO.out k h)
          have HQ3 : Hid (k = p → zs.getD k [] = x) := Lib.hid (fun h => by rw [h]; exact HPX.out)
          generalize zs.getD k [] = y at c0 HQ HQ2 HQ3
          unfold Strs.sv at c0
          have HS0 : Hid (Qua.GrowS w wr wr) := Lib.hid ⟨Below.refl _ _, HG.out.2⟩
          have SK : Hid (∀ w0 w1 : World, Qua.GrowS w wr w0 → Below w0.heap.size w0 w1 → Qua.GrowS w wr w1) := Lib.hid (fun _ _ h hb => Qua.grow_call h hb)
          have F0 : Hid (∀ W, Qua.GrowS w wr W → W.cell? ⟨b, off + k, none⟩ = some (.string ⟨y.toArray⟩)) := Lib.hid (fun W h => Qua.grow_old h c0)
          have hki : (k : Int) < (zs.length : Int) := by omega
          have HNX : Hid (Qua.GrowS w w6 wr) := HG
          have HFG : Hid (∀ (z : List UInt8) (W : World), Qua.GrowS w wr W → Calls Tryd.prog 10 #[.slice am ms.length cm, .string ⟨z.toArray⟩] W fun e w' => e = .returned (.int .i64 (Qua.qof z ms)) ∧ Below W.heap.size W w') := Lib.hid (fun z W h =>
            Qua.impl_qof _ _ ms z W (Qua.holds_below HM.out (HNX.out.1.trans (h.1.mono HNX.out.1.size))) (Nat.le_trans HNX.out.1.size h.1.size) (by have := HML.out; omega))
          clear hat
          rcases Nat.lt_trichotomy k p with hkp | hkp | hkp
          · have hlo := HQ2.out hkp
            have hne : ¬ y = x := fun e => by rw [e] at hlo; omega
            have hneb : (y == x) = false := beq_false_of_ne hne
            have HY := Lib.hid (HFG.out y)
            have HX := Lib.hid (HFG.out x)
            generalize Qua.qof y ms = fy at hlo HY
            generalize Qua.qof x ms = fx at hlo HX
            have hn1 : ¬ fx < fy := by omega
            have hn2 : ¬ fy = fx := by omega
            have hn3 : (fy == fx) = false := beq_false_of_ne hn2
            have HE1 := Lib.hid (bst_lo (p := p) (k := k) (by omega))
            have HE2 := Lib.hid (bst_lo (p := p) (k := k + 1) (by omega))
            rw [HE1.out]
            clear HQ HQ2 HQ3 HFG hkp
            go_wp2_with (fail)
            go_at_call 10
            refine (HY.out _ HS0.out).mono ?_
            rintro e v0 ⟨rfl, b⟩
            have HS1 := Lib.hid (SK.out _ _ HS0.out b)
            have d0 := F0.out _ HS1.out
            clear b HS0 c0
            go_wp2_with (fail)
            go_at_call 10
            refine (HX.out _ HS1.out).mono ?_
            rintro e v1 ⟨rfl, b⟩
            have HS2 := Lib.hid (SK.out _ _ HS1.out b)
            have d1 := F0.out _ HS2.out
            clear b HS1 d0
            go_wp2_with (fail)
            go_at_call 10
            refine (HY.out _ HS2.out).mono ?_
            rintro e v2 ⟨rfl, b⟩
            have HS3 := Lib.hid (SK.out _ _ HS2.out b)
            have d2 := F0.out _ HS3.out
            clear b HS2 d1
            go_wp2_with (fail)
            go_at_call 10
            refine (HX.out _ HS3.out).mono ?_
            rintro e v3 ⟨rfl, b⟩
            have HS4 := Lib.hid (SK.out _ _ HS3.out b)
            have d3 := F0.out _ HS4.out
            clear b HS3 d2
            have HBB := HS4
            clear d3
            go_wp2
            go_roundw
            case rel => exact ⟨k + 1, by omega, by go_num, by rw [HE2.out], Lib.hid ⟨HG.out.1.trans (HBB.out.1.mono HG.out.1.size), HBB.out.2⟩⟩
            case measure => simp [intOf]; omega
          · have e := HQ3.out hkp
            subst e
            have HX := Lib.hid (HFG.out y)
            generalize Qua.qof y ms = fx at HX
            have hn1 : ¬ fx < fx := by omega
            have HE1 := Lib.hid (bst_lo (p := p) (k := k) (by omega))
            have HE2 : Hid (bst p (k + 1) = (k : Int)) := Lib.hid (by rw [bst_hi (by omega), hkp])
            have hk0 : ¬ (k : Int) < 0 := by omega
            rw [HE1.out]
            clear HQ HQ2 HQ3 HFG hkp
            go_wp2_with (fail)
            go_at_call 10
            refine (HX.out _ HS0.out).mono ?_
            rintro e v0 ⟨rfl, b⟩
            have HS1 := Lib.hid (SK.out _ _ HS0.out b)
            have d0 := F0.out _ HS1.out
            clear b HS0 c0
            go_wp2_with (fail)
            go_at_call 10
            refine (HX.out _ HS1.out).mono ?_
            rintro e v1 ⟨rfl, b⟩
            have HS2 := Lib.hid (SK.out _ _ HS1.out b)
            have d1 := F0.out _ HS2.out
            clear b HS1 d0
            have HBB := HS2
            clear d1
            go_wp2
            go_roundw
            case rel => exact ⟨k + 1, by omega, by go_num, by rw [HE2.out], Lib.hid ⟨HG.out.1.trans (HBB.out.1.mono HG.out.1.size), HBB.out.2⟩⟩
            case measure => simp [intOf]; omega
          · have HE1 := Lib.hid (bst_hi (p := p) (k := k) hkp)
            have HE2 := Lib.hid (bst_hi (p := p) (k := k + 1) (by omega))
            have hq := HQ.out
            have HY := Lib.hid (HFG.out y)
            have HX := Lib.hid (HFG.out x)
            generalize Qua.qof y ms = fy at hq HY
            generalize Qua.qof x ms = fx at hq HX
            have hn1 : ¬ fx < fy := by omega
            have hp0 : ¬ (p : Int) < 0 := by omega
            rw [HE1.out]
            clear HQ HQ2 HQ3 HFG hkp
            by_cases e : y = x
            · subst e
              go_wp2_with (fail)
              go_at_call 10
              refine (HX.out _ HS0.out).mono ?_
              rintro e v0 ⟨rfl, b⟩
              have HS1 := Lib.hid (SK.out _ _ HS0.out b)
              have d0 := F0.out _ HS1.out
              clear b HS0 c0
              go_wp2_with (fail)
              go_at_call 10
              refine (HX.out _ HS1.out).mono ?_
              rintro e v1 ⟨rfl, b⟩
              have HS2 := Lib.hid (SK.out _ _ HS1.out b)
              have d1 := F0.out _ HS2.out
              clear b HS1 d0
              have HBB := HS2
              clear d1
              go_wp2
              go_roundw
              case rel => exact ⟨k + 1, by omega, by go_num, by rw [HE2.out], Lib.hid ⟨HG.out.1.trans (HBB.out.1.mono HG.out.1.size), HBB.out.2⟩⟩
              case measure => simp [intOf]; omega
            · have hneb : (y == x) = false := beq_false_of_ne e
              go_wp2_with (fail)
              go_at_call 10
              refine (HY.out _ HS0.out).mono ?_
              rintro e v0 ⟨rfl, b⟩
              have HS1 := Lib.hid (SK.out _ _ HS0.out b)
              have d0 := F0.out _ HS1.out
              clear b HS0 c0
              go_wp2_with (fail)
              go_at_call 10
              refine (HX.out _ HS1.out).mono ?_
              rintro e v1 ⟨rfl, b⟩
              have HS2 := Lib.hid (SK.out _ _ HS1.out b)
              have d1 := F0.out _ HS2.out
              clear b HS1 d0
              have HBB := HS2
              clear d1
              go_wp2
              go_roundw
              case rel => exact ⟨k + 1, by omega, by go_num, by rw [HE2.out], Lib.hid ⟨HG.out.1.trans (HBB.out.1.mono HG.out.1.size), HBB.out.2⟩⟩
              case measure => simp [intOf]; omega
        · have HE1 := Lib.hid (bst_hi (p := p) (k := k) (by omega))
          have hp0 : (0 : Int) ≤ (p : Int) := by omega
          rw [HE1.out]
          clear HAN HM
          go_wp2
          go_ret
          exact ⟨rfl, HG.out.2⟩
end Go.Proofs.YtppdcboobpbajaaDoor.fnQualities

/-
  FROM A ROW's LISTED VARIABLES to what the contracts ask of the world: the library's table of powers of ten, wherever it stands on the list.
-/
namespace Go.Proofs.YtppdcboobpbajaaDoor.Laid
open Go
set_option linter.unusedVariables false
set_option maxRecDepth 1000000

theorem of_vars {P : Program} {w : World} : ∀ {l : List (String × DataW Unit)} {ps : List MemPlace}, DataW.LaidVars P w l ps → ∀ n d, (n, d) ∈ l →
    ∃ g t cs fuel p, P.globalNamed n = some g ∧ (P.globals[g]?).map (·.type) = some t ∧ w.var? P n = some cs ∧ DataW.trod (fun _ => ()) P w 0 (fun _ => true) false fuel t cs.toList = some (d, p)
  | [], _, _, _, _, hm => by cases hm
  | (n', d') :: r, ps, h, n, d, hm => by
    obtain ⟨g, t, cs, fuel, p, q, h1, h2, h3, h4, h5, _⟩ := h
    rcases List.mem_cons.1 hm with e | e
    · cases e
      exact ⟨g, t, cs, fuel, p, h1, h2, h3, h4⟩
    · exact of_vars h5 n d e
theorem tens_datum : (Rows.laid_internal_strconv_uint64pow10 : DataW Unit) = Lib.tabData .u64 Lib.pow10Tab := by kernel_rfl
theorem tens {l : List (String × DataW Unit)} {W : World} (h : laidMet Tryd.prog l W) (hm : ("internal/strconv.uint64pow10", Rows.laid_internal_strconv_uint64pow10) ∈ l) : Fmt.Tens W := by
  obtain ⟨ps, hv, _⟩ := h
  obtain ⟨g, t, cs, fuel, p, hg, ht, hvar, hd⟩ := of_vars hv _ _ hm
  obtain rfl := Option.some.inj ((show Tryd.prog.globalNamed "internal/strconv.uint64pow10" = some 5 by kernel_rfl).symm.trans hg)
  obtain rfl := Option.some.inj ((show (Tryd.prog.globals[5]?).map (·.type) = some 114 by kernel_rfl).symm.trans ht)
  rw [tens_datum] at hd
  unfold Fmt.Tens Lib.TabIs
  rw [hvar, ← Lib.cells_of_tab Tryd.underlying114 Tryd.underlying95 (by kernel_rfl) (by kernel_rfl) hd]
end Go.Proofs.YtppdcboobpbajaaDoor.Laid

/-
  FROM A ROW's LISTED VARIABLES to what the contracts ask of the world: the two errors of the library's number reader, wherever they stand on the list.
-/
namespace Go.Proofs.YtppdcboobpbajaaDoor.Laid
open Go
set_option linter.unusedVariables false
set_option maxRecDepth 1000000

theorem at_head {P : Program} {w : World} {n : String} {d : DataW Unit} : ∀ {l : List (String × DataW Unit)}, laidMet P l w → (n, d) ∈ l → ∃ r, laidMet P ((n, d) :: r) w
  | [], _, hm => by cases hm
  | x :: r, h, hm => by
    rcases List.mem_cons.1 hm with e | e
    · cases e; exact ⟨r, h⟩
    · exact at_head h.tail e
theorem errs {l : List (String × DataW Unit)} {W : World} (h : laidMet Tryd.prog l W) (h1 : ("strconv.ErrSyntax", Rows.laid_strconv_ErrSyntax) ∈ l) (h2 : ("strconv.ErrRange", Rows.laid_strconv_ErrRange) ∈ l) : Par.Errs W := by
  obtain ⟨r1, k1⟩ := at_head h h1
  obtain ⟨r2, k2⟩ := at_head h h2
  have row : ∀ u, Tryd.prog.typeName? 3 u = some "*errors.errorString" → u = 104 :=
    fun u hu => typeName_ptr_named (nm := "errors.errorString") (by kernel_rfl) (by kernel_rfl) (by decide) u hu
  obtain ⟨a1, s1, v1, _⟩ := laid_sentinel k1 (show Tryd.prog.globalNamed "strconv.ErrSyntax" = some 3 by kernel_rfl) (show (Tryd.prog.globals[3]?).map (·.type) = some 72 by kernel_rfl) Tryd.underlying72 row Tryd.underlying104 Tryd.underlying106 rfl rfl Tryd.underlying9 (by kernel_rfl) (by kernel_rfl)
  obtain ⟨a2, s2, v2, _⟩ := laid_sentinel k2 (show Tryd.prog.globalNamed "strconv.ErrRange" = some 4 by kernel_rfl) (show (Tryd.prog.globals[4]?).map (·.type) = some 72 by kernel_rfl) Tryd.underlying72 row Tryd.underlying104 Tryd.underlying106 rfl rfl Tryd.underlying9 (by kernel_rfl) (by kernel_rfl)
  exact ⟨⟨_, _, v1⟩, ⟨_, _, v2⟩⟩
end Go.Proofs.YtppdcboobpbajaaDoor.Laid
