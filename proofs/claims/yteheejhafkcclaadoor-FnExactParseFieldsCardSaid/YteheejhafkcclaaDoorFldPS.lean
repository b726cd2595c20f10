/-
  CONTRACT of the model's ParseFields: the fields of the lines, in memory of their own, and whether all is well; nothing that was there before is changed.
-/
import Derived.Test.YteheejhafkcclaaDoorFldPI
import Derived.Test.YteheejhafkcclaaDoorFldPL
import Derived.Test.YteheejhafkcclaaDoorLowS
import Derived.Test.YteheejhafkcclaaDoorRec
import Derived.IntWalk
import Derived.RegionTactic
import Derived.Deep.RegionLaw
import Derived.Deep.AppendLies
namespace Go.Proofs.YteheejhafkcclaaDoor.Flds
open Go Go.RowKit
set_option linter.unusedVariables false

theorem low_g (s : ByteArray) (k : Nat) (hk : k ≤ s.size) (hl : s.size ≤ 1048576) (W : World) : Calls Tryd.prog 10 #[.string (s.extract 0 k)] W fun e w' => e = .returned (.string ⟨(Tx.lower (s.data.toList.take k)).toArray⟩) ∧ Below W.heap.size W w' := by
  have h := Tx.spec_lower (s.extract 0 k) W (by simp; omega)
  rw [show (s.extract 0 k).data.toList = s.data.toList.take k by rw [Tx.ext_eq]; simp] at h
  exact h
theorem trim_g (s : ByteArray) (k : Nat) (hk : k ≤ s.size) (hl : s.size ≤ 1048576) (W : World) : Calls Tryd.prog 11 #[.string (s.extract k s.size)] W fun e w' => e = .returned (.string ⟨(Tx.trim (s.data.toList.drop k)).toArray⟩) ∧ Below W.heap.size W w' := by
  have hll : s.data.toList.length = s.size := by rw [Array.length_toList]; rfl
  have h := Tx.spec_trim (s.extract k s.size) W (by simp; omega)
  rw [show (s.extract k s.size).data.toList = s.data.toList.drop k by rw [Tx.ext_eq]; simp only []; exact List.take_of_length_le (by rw [List.length_drop, hll]; omega)] at h
  exact h.mono (by rintro e w' ⟨rfl, rfl⟩; exact ⟨rfl, Below.refl _ _⟩)
theorem col_hit {s : ByteArray} {k : Nat} (hk : k < s.size) (h1 : ∀ j (hj : j < s.data.toList.length), j < k → s.data.toList[j] ≠ 58) (h2 : ∀ h : k < s.data.toList.length, s.data.toList[k] = 58) : Tx.cutAt 58 s.data.toList = (s.data.toList.take k, s.data.toList.drop (k + 1), true) := by
  have hl : s.data.toList.length = s.size := by rw [Array.length_toList]; rfl
  have hi : Tx.idx 58 s.data.toList = k := Tx.idx_eq (by omega) h1 h2
  unfold Tx.cutAt; rw [hi, hl, if_pos hk]
theorem col_miss {s : ByteArray} (h1 : ∀ j (hj : j < s.data.toList.length), j < s.size → s.data.toList[j] ≠ 58) : Tx.cutAt 58 s.data.toList = (s.data.toList, [], false) := by
  have hl : s.data.toList.length = s.size := by rw [Array.length_toList]; rfl
  have hi : Tx.idx 58 s.data.toList = s.size := Tx.idx_eq (by omega) h1 (fun h => absurd h (by omega))
  unfold Tx.cutAt; rw [hi, hl, if_neg (by omega)]

set_option maxRecDepth 100000 in
set_option maxHeartbeats 8000000 in
theorem spec_pfr (l : List UInt8) (w : World) (hl : l.length ≤ 1048576) :
    Calls Tryd.prog 4 #[.string ⟨l.toArray⟩] w (PfrEnd l w) := by
  obtain ⟨i0, hi, hz0, hz1, hz2⟩ := info_parts info_fld
  have hsz : (⟨l.toArray⟩ : ByteArray).size = l.length := by simp [ByteArray.size]
  have HO1 := Lib.hid (own_lit_nil w)
  have HST : Hid (Kp l [] (l.drop 0)) := Lib.hid (by rw [List.drop_zero]; exact kp_start l)
  go_enter Tryd.func4, Tryd.ntmps4
  go_wp2
  go_loopw [4, 5, 6, 7, 8] (fun u a _ _ _ wr => ∃ (p : Nat) (m : List Fld), p ≤ l.length ∧ a = .int .i64 (p : Int) ∧ wr.ownsRow w.heap.size 32 2 u m.length (fcs m) ∧ Hid (Kp l m (l.drop p)) ∧ Below w.heap.size w wr) (fun _ a _ _ _ _ => l.length - (intOf a).toNat)
  case atStart => exact ⟨0, [], Nat.zero_le _, rfl, HO1.out, HST, (Below.refl _ _).alloc (Nat.le_refl _) _⟩
  case round =>
    clear HO1 HST
    obtain ⟨p, m, hp, rfl, hown, HK, hb⟩ := hrel
    have HB := Lib.hid hb
    have hbs := hb.size
    have HO : Hid (Own wr w.heap.size u4 m) := Lib.hid hown
    clear hown hb
    by_cases hlt : p < l.length
    case neg =>
      obtain rfl : p = l.length := by omega
      have HPE := Lib.hid (kp_end (by have h := HK.out; rw [List.drop_length] at h; exact h))
      have HT : Hid (total m ≤ 1048576) := Lib.hid (by have h1 := HK.out.2; omega)
      have HH := Lib.hid (own_holds HO.out)
      have HR := Lib.hid (spec_are u4 _ m wr HH.out (Nat.le_refl _) HT.out)
      unfold AreEnd at HR
      obtain ⟨b, hbb⟩ : ∃ b, fldsOk m = b := ⟨_, rfl⟩
      have HBB := Lib.hid hbb
      rw [hbb] at HR
      clear hbb HK
      go_wp2_with (fail)
      go_at_call 12
      refine HR.out.mono ?_
      rintro e w1 ⟨rfl, hb1⟩
      have HO1 := Lib.hid (own_below HO.out hb1)
      have HB1 := Lib.hid (Base.then_below HB.out hb1)
      clear hb1 HR HO HB HH
      cases b with
      | true =>
        have HE := Lib.hid (pfr_yes HPE.out HBB.out)
        go_wp2
        go_ret2
        exact pfr_ret HE.out HO1.out HB1.out
      | false =>
        have HE := Lib.hid (pfr_no HPE.out HBB.out)
        have HN := Lib.hid (fnil_late HB1.out)
        have HB2 := Lib.hid (HB1.out.alloc HB1.out.size (.cells #[] 32))
        go_wp2
        go_ret2
        exact pfr_ret HE.out HN.out HB2.out
    have hlt' : (p : Int) < (l.length : Int) := by omega
    have hne : l.drop p ≠ [] := by intro h; have := congrArg List.length h; rw [List.length_drop, List.length_nil] at this; omega
    have HC := Lib.hid (spec_line l p wr hp hl)
    unfold LineEnd at HC
    have HLN := Lib.hid (fun h => ln_len (s := l.drop p) h)
    have HBAD := Lib.hid (fun h => pfr_bad (kp_bad HK.out hne h))
    have HMORE := Lib.hid (fun f h => kp_more (f := f) HK.out hne h)
    have HML : Hid (m.length ≤ 1048576) := Lib.hid (by have h1 := HK.out.2; unfold total at h1; omega)
    have HF1 : Hid (fld1 (l.drop p) = _) := Lib.hid (show fld1 (l.drop p) = _ by unfold fld1; rfl)
    have HX2 : Hid ((ln (l.drop p)).2.2 = true → (ln (l.drop p)).2.1 = l.drop (p + (ln (l.drop p)).1.length + 2)) := Lib.hid (by
      intro h
      unfold ln Lib.cut at h ⊢
      split at h
      · rename_i h0
        rw [if_pos h0]
        have h9 := Lib.index_le (l.drop p) [13, 10]
        dsimp only
        rw [List.drop_drop, List.length_take, Nat.min_eq_left (by omega)]
        rfl
      · cases h)
    clear HK hne
    generalize ln (l.drop p) = x at HC HLN HMORE HF1 HX2
    obtain ⟨x1, x2, en⟩ := x
    dsimp only at HC HLN HMORE HF1 HX2
    cases en with
    | false =>
      have HE := Lib.hid (HBAD.out (by rw [HF1.out]; simp))
      have hff : ((false : Bool) = true) = False := by simp
      simp only [hff, if_false] at HC
      clear hff HF1 HX2 HMORE HLN HBAD
      go_wp2_with (fail)
      go_at_call 9
      refine HC.out.mono ?_
      rintro e w1 ⟨rfl, hb1⟩
      have HB1 := Lib.hid (Base.then_below HB.out hb1)
      clear hb1 HC HO HB
      go_wp2
      go_loopw [8] (fun i wr => i = .int .i64 0 ∧ Below w.heap.size w wr) (fun _ _ => 0)
      case atStart => exact ⟨rfl, HB1.out⟩
      case round =>
        obtain ⟨rfl, hb⟩ := hrel
        have HB2 := Lib.hid hb
        have HN := Lib.hid (fnil_late hb)
        have HB3 := Lib.hid (hb.alloc hb.size (.cells #[] 32))
        clear hb HB1
        go_wp2
        go_ret2
        exact pfr_ret HE.out HN.out HB3.out
    | true =>
      obtain ⟨sx, hsx⟩ : ∃ sx : ByteArray, x1 = sx.data.toList := ⟨⟨x1.toArray⟩, by simp⟩
      subst hsx
      have hll : sx.data.toList.length = sx.size := by rw [Array.length_toList]; rfl
      have HLX := Lib.hid (HLN.out rfl)
      have HX2 := Lib.hid (HX2.out rfl)
      have hsxl : sx.size ≤ 1048576 := by have h := HLX.out; rw [hll, List.length_drop] at h; omega
      have HPN : Hid (p + sx.size + 2 ≤ l.length) := Lib.hid (by have h := HLX.out; rw [hll, List.length_drop] at h; omega)
      have hpn := HPN.out
      rw [hll] at HC HX2
      simp only [if_true] at HC
      have esx : (⟨sx.data.toList.toArray⟩ : ByteArray) = sx := by simp
      rw [esx] at HC
      clear esx
      obtain ⟨nx, hnx⟩ : ∃ nx : Int, nx = ((p + sx.size + 2 : Nat) : Int) := ⟨_, rfl⟩
      rw [← hnx] at HC
      have hnx0 : ¬ nx < 0 := by omega
      have HNX := Lib.hid hnx
      clear hnx
      go_wp2_with (fail)
      go_at_call 9
      refine HC.out.mono ?_
      rintro e w1 ⟨rfl, hb1⟩
      have HO1 := Lib.hid (own_below HO.out hb1)
      have HB1 := Lib.hid (Base.then_below HB.out hb1)
      clear hb1 HC HO HB HLN
      go_wp2
      go_loopw [8] (fun i wr => ∃ k : Nat, k ≤ sx.size ∧ i = .int .i64 (k : Int) ∧ Hid (∀ j (hj : j < sx.data.toList.length), j < k → sx.data.toList[j] ≠ 58) ∧ wr.ownsRow w.heap.size 32 2 u4 m.length (fcs m) ∧ Below w.heap.size w wr) (fun i _ => sx.size - (intOf i).toNat)
      case atStart => exact ⟨0, Nat.zero_le _, rfl, Lib.hid (fun j hj h => absurd h (by omega)), HO1.out, HB1.out⟩
      case round =>
        clear HO1 HB1
        obtain ⟨k, hk, rfl, HN, hown, hb⟩ := hrel
        have HB := Lib.hid hb
        have HO : Hid (Own wr w.heap.size u4 m) := Lib.hid hown
        clear hown hb
        by_cases hkl : k < sx.size
        case neg =>
          obtain rfl : k = sx.size := by omega
          have HE := Lib.hid (HBAD.out (by rw [HF1.out, col_miss HN.out]; simp))
          have HNN := Lib.hid (fnil_late HB.out)
          have HB3 := Lib.hid (HB.out.alloc HB.out.size (.cells #[] 32))
          have e1 : (((sx.size : Nat) : Int) == ((sx.size : Nat) : Int)) = true := by simp
          clear HF1 HMORE HBAD HO
          go_wp2
          go_ret2
          exact pfr_ret HE.out HNN.out HB3.out
        have hkl' : (k : Int) < (sx.size : Int) := by omega
        rcases hc : ((sx[k].toNat : Int) == 58) with _ | _
        · have HCC : Hid (sx[k] ≠ 58) := Lib.hid (by intro h; rw [h] at hc; revert hc; decide)
          have hc2 : ((sx[k].toNat : Int) != 58) = true := by rw [bne, hc]; rfl
          clear HF1 HMORE HBAD
          go_wp2
          go_roundw
          case rel => exact ⟨k + 1, by omega, by go_num, Lib.hid (fun j hj h => by
            rcases Nat.lt_or_ge j k with h' | h'
            · exact HN.out j hj h'
            · have : j = k := by omega
              subst this; exact HCC.out), HO.out, HB.out⟩
          case measure => simp [intOf]; omega
        have HCC : Hid (sx[k] = 58) := Lib.hid (UInt8.toNat_inj.1 (by have := beq_iff_eq.1 hc; simp; omega))
        have hc2 : ((sx[k].toNat : Int) != 58) = false := by rw [bne, hc]; rfl
        have HCT := Lib.hid (col_hit hkl HN.out (fun _ => HCC.out))
        have HKN := Lib.hid (HMORE.out (Tx.lower (sx.data.toList.take k), Tx.trim (sx.data.toList.drop (k + 1))) (by rw [HF1.out, HCT.out]; simp))
        have HLW := Lib.hid (fun W => low_g sx k (by omega) hsxl W)
        have HTR := Lib.hid (fun W => trim_g sx (k + 1) (by omega) hsxl W)
        have e1 : ((k : Int) == ((sx.size : Nat) : Int)) = false := by rw [beq_eq_false_iff_ne]; omega
        have hfl := fcs_len m
        generalize Tx.lower (sx.data.toList.take k) = a1 at HLW HKN
        generalize Tx.trim (sx.data.toList.drop (k + 1)) = a2 at HTR HKN
        rw [HX2.out] at HKN
        try rw [hll] at HKN
        clear HF1 HMORE HBAD HCT HN hc HX2 HLX
        go_wp2
        have HB : Hid (Below w.heap.size w wr.drew) := Lib.hid (Rec.below_drew HB.out)
        have HO : Hid (Own wr.drew w.heap.size u4 m) := Lib.hid HO.out
        rotate_left
        exact True.intro
        have hwk : IntKind.i64.wrap ((k : Int) + 1) = (k : Int) + 1 := by rw [IntWalk.i64_left]; unfold RowKit.wrap64; omega
        have htn : ((k : Int) + 1).toNat = k + 1 := by omega
        have hkb : (k : Int) + 1 ≤ (sx.size : Int) := by omega
        have hkb0 : (0 : Int) ≤ (k : Int) + 1 := by omega
        have hk0 : (0 : Int) ≤ (k : Int) := by omega
        have hkm : (k : Int) ≤ (sx.size : Int) := by omega
        go_region_law (first
          | (refine step_append_lies _ (by rfl) (.tmp 41) (.tmp 52) 22 (by rfl) w.heap.size 32 i0 (.agg #[.string ⟨#[]⟩, .string ⟨#[]⟩]) 2 32 Tryd.underlying22 hi hz0 hz1 hz2 (by rfl) (by decide) _ _ _ (by rfl) (HO.out.alloc _) ⟨wz.heap.size, 0, none⟩ 1 1 [sv a1, sv a2] (by rfl) (by rfl) (news_two _ _ _ _) (two_one (a1, a2)) (by decide) (by have := HML.out; unfold maxLen; omega) (by have := HML.out; omega) (by have := HB.out.size; simp; omega) _ rfl ?_; intro g gcap w4 hown1 hgrow hat hglt)
          | (go_simp; go_at_call 10; (with_reducible refine (HLW.out _).mono ?_); rintro e wq ⟨rfl, bq⟩; have HO := Lib.hid (own_below HO.out bq); have HB := Lib.hid (Base.then_below HB.out bq); clear bq)
          | (go_simp; go_at_call 11; (with_reducible refine (HTR.out _).mono ?_); rintro e wz ⟨rfl, bq⟩; have HO := Lib.hid (own_below HO.out bq); have HB := Lib.hid (Base.then_below HB.out bq); clear bq))
        all_goals (
          have R := Lib.hid (push_own (f := (a1, a2)) HO.out HB.out (Nat.le_refl _) hown1 hgrow)
          clear hown1 hgrow hat hglt
          go_wp2
          go_roundw
          case rel => exact ⟨p + sx.size + 2, m ++ [(a1, a2)], by omega, by rw [HNX.out], R.out.1, HKN, R.out.2⟩
          case measure => have h9 := HNX.out; simp [intOf]; omega)
theorem pf_len : ∀ (n : Nat) (s : List UInt8) (m : List Fld), pf n s = some m → m.length ≤ n
  | 0, s, m, h => by
    unfold pf at h; split at h
    · cases h; simp
    · cases h
  | n + 1, s, m, h => by
    unfold pf at h; split at h
    · cases h; simp
    · cases hf : fld1 s with
      | none => rw [hf] at h; cases h
      | some f =>
        rw [hf] at h
        cases hp : pf n (ln s).2.1 with
        | none => simp [hp] at h
        | some m2 =>
          simp [hp] at h
          subst h
          have := pf_len n _ _ hp
          rw [List.length_cons]; omega
theorem pfr_len (l : List UInt8) : (pfr l).1.length ≤ l.length := by
  unfold pfr
  cases h : PF l with
  | none => simp
  | some m =>
    dsimp only
    split
    · exact pf_len _ _ _ h
    · simp
theorem mxl_of {W : World} (h : W.ShapedOpen Tryd.prog) : Sh.MxL W := by
  obtain ⟨m, hc⟩ := Go.Proofs.cell_of_shapedOpen_int (g := 0) (zero := #[.int .i64 0]) (t := 3) h (of_decide_eq_true (by kernel_rfl)) (by kernel_rfl) rfl (by kernel_rfl) (by kernel_rfl) Tryd.underlying3
  exact ⟨lt_of_cell hc, m, hc⟩
end Go.Proofs.YteheejhafkcclaaDoor.Flds
