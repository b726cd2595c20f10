/-
  CONTRACTS AND PLAIN FACTS, several texts in one; each says in its own words what it proves.
-/
import Derived.Test.YtilephkbcikfbaaDoorPartS
import Derived.Test.YtilephkbcikfbaaDoorPartQ
import Derived.Test.YtilephkbcikfbaaDoorPartN
import Derived.Test.YtilephkbcikfbaaDoorPartG
import Derived.Test.YtilephkbcikfbaaDoorPartM
import Derived.Test.YtilephkbcikfbaaDoorPartF
set_option linter.unusedSimpArgs false
set_option linter.unusedVariables false

/-
  THE WALK of the law of chapter 3.
-/
namespace Go.Proofs.YtilephkbcikfbaaDoor.fnDates
open Go Go.RowKit
set_option linter.unusedVariables false
set_option maxRecDepth 1000000

set_option maxHeartbeats 8000000 in
theorem walk (b0 : Option Addr) (l0 c0 : Nat) (w0 : l0 ≤ maxLen) (w : World) (y0 : l0 ≤ 1048576 → Cur.Bytes w w.heap.size (.slice b0 l0 c0)) (hm : Dt.Mds w) (hn : Dt.Names w) (ht : Fmt.Tens w) :
    Calls Tryd.prog 3 #[.slice b0 l0 c0] w fun e w' => e = .returned (.bool true) ∧ Below w.heap.size w w' := by
  clear w0
  by_cases hbig : 1048576 < (l0 : Int)
  · go_enter Tryd.func3, Tryd.ntmps3
    go_wp2_with (go_at_call 4; refine (Cur.big_yes _ _ _ _ hbig).mono ?_; rintro e w' ⟨rfl, rfl⟩)
    go_ret
    exact ⟨rfl, Below.refl _ _⟩
  have HBY := Lib.hid (y0 (by omega))
  have HM := Lib.hid hm
  have HN := Lib.hid hn
  have HTN := Lib.hid ht
  clear y0 hm hn ht
  go_enter Tryd.func3, Tryd.ntmps3
  go_wp2_with (fail)
  go_at_call 4
  refine (Cur.big_no _ _ _ _ (by omega)).mono ?_
  rintro e w' ⟨rfl, rfl⟩
  go_wp2_with (fail)
  go_at_call 5
  refine (Cur.draw_fd _ _ _ HBY.out (Nat.le_refl _)).mono ?_
  rintro e w1 ⟨t, htf, rfl, b1⟩
  have B1 := Lib.hid b1
  have HF := Lib.hid (Dt.fm_any t w1 (Dt.mds_below HM.out b1) (Dt.names_below HN.out b1) (Fmt.tens_below HTN.out b1))
  unfold Dt.FmEnd at HF
  clear b1 htf
  go_wp2_with (fail)
  go_at_call 6
  refine HF.out.mono ?_
  rintro e w2 ⟨l, ⟨hll, hfm⟩, rfl, b2⟩
  have B2 := Lib.hid (Base.then_below B1.out b2)
  have HP := Lib.hid (Dt.impl_pdate l w2 (by omega) (Dt.mds_below HM.out B2.out) (Dt.names_below HN.out B2.out) (Fmt.tens_below HTN.out B2.out))
  unfold Dt.PdEnd at HP
  clear b2 HF B1
  rcases hfm with ⟨hin, hp, hl29⟩ | ⟨hin, hp⟩
  · rw [hp] at HP
    have hi0 : 0 ≤ t := hin.1
    have hi1 : t ≤ 4102444799 := hin.2
    have hli : (l.length : Int) = 29 := by omega
    have hn1 : ¬ t < 0 := by omega
    have hn2 : ¬ 4102444799 < t := by omega
    clear hp
    go_wp2_with (fail)
    go_at_call 7
    refine HP.out.mono ?_
    rintro e w3 ⟨rfl, b3⟩
    have B3 := Lib.hid (Base.then_below B2.out b3)
    clear b3 HP B2
    dsimp only
    go_wp2_with (fail)
    go_at_call 8
    refine (Cur.draw_cv _ _ _ (Cur.bytes_below HBY.out B3.out) B3.out.size).mono ?_
    rintro e w4 ⟨day, ⟨hd0, hd1⟩, rfl, b4⟩
    have B4 := Lib.hid (Base.then_below B3.out b4)
    clear b4 B3
    by_cases hdr : 0 ≤ day ∧ day ≤ 47481
    · have HC := Lib.hid (Dt.impl_civ day w4 hdr.1 hdr.2 (Dt.mds_below HM.out B4.out))
      unfold Dt.Civ at HC
      obtain ⟨hr0, hr1⟩ := hdr
      go_wp2_with (fail)
      go_at_call 9
      refine HC.out.mono ?_
      rintro e w5 ⟨y, m, d, hcv, rfl, b5⟩
      have B5 := Lib.hid (Base.then_below B4.out b5)
      obtain ⟨q1, q2, q3, q4, q5, q6⟩ := Dt.cv_bd hcv
      have HD := Lib.hid (Dt.impl_days y m d w5 (Go.WalkArith.wf_i64 ⟨by omega, by omega⟩) (Dt.mds_below HM.out B5.out))
      rw [Dt.dof_cv hcv] at HD
      have HLP := Lib.hid (fun h1 h2 => Dt.leap_ok hcv h1 h2)
      unfold Dt.Num at HD
      clear b5 B4 HC hcv
      go_wp2_with (fail)
      go_at_call 10
      refine HD.out.mono ?_
      rintro e w6 ⟨rfl, b6⟩
      have B6 := Lib.hid (Base.then_below B5.out b6)
      clear b6 B5 HD
      go_wp2_with (fail)
      go_at_call 11
      refine (Cur.draw_pd _ _ _ (Cur.bytes_below HBY.out B6.out) B6.out.size).mono ?_
      rintro e w7 ⟨s, hs, rfl, b7⟩
      have B7 := Lib.hid (Base.then_below B6.out b7)
      have HP7 := Lib.hid (Dt.impl_pdate s w7 (by omega) (Dt.mds_below HM.out B7.out) (Dt.names_below HN.out B7.out) (Fmt.tens_below HTN.out B7.out))
      have HIN := Lib.hid (fun h => Dt.pdate_in (l := s) h)
      unfold Dt.PdEnd at HP7
      generalize Dt.pdate s = pr at HP7 HIN
      obtain ⟨v, rd⟩ := pr
      dsimp only at HP7 HIN
      clear b7 hs B6
      go_wp2_with (fail)
      go_at_call 7
      refine HP7.out.mono ?_
      rintro e w8 ⟨rfl, b8⟩
      have B8 := Lib.hid (Base.then_below B7.out b8)
      have HF8 := Lib.hid (Dt.fm_any v w8 (Dt.mds_below HM.out B8.out) (Dt.names_below HN.out B8.out) (Fmt.tens_below HTN.out B8.out))
      unfold Dt.FmEnd at HF8
      clear b8 B7 HP7
      go_wp2_with (fail)
      go_at_call 6
      refine HF8.out.mono ?_
      rintro e w9 ⟨l', ⟨hll', hfm'⟩, rfl, b9⟩
      have B9 := Lib.hid (Base.then_below B8.out b9)
      have HP9 := Lib.hid (Dt.impl_pdate l' w9 (by omega) (Dt.mds_below HM.out B9.out) (Dt.names_below HN.out B9.out) (Fmt.tens_below HTN.out B9.out))
      unfold Dt.PdEnd at HP9
      have HFM : Hid (rd = true → Dt.pdate l' = (v, true)) := Lib.hid (fun h => by
        rcases hfm' with ⟨_, h2, _⟩ | ⟨h1, _⟩
        · exact h2
        · exact absurd (HIN.out h) h1)
      generalize Dt.pdate l' = pr' at HP9 HFM
      obtain ⟨v', rd'⟩ := pr'
      dsimp only at HP9
      clear b9 B8 HF8 hfm' hll' HIN
      go_wp2_with (fail)
      go_at_call 7
      refine HP9.out.mono ?_
      rintro e w10 ⟨rfl, b10⟩
      have B10 := Lib.hid (Base.then_below B9.out b10)
      clear b10 B9 HP9
      have hw1 : IntKind.i64.wrap (day + 1) = day + 1 := IntWalk.i64_in _ (by omega)
      have HW1 := Lib.hid (fun W => Dt.impl_week (day + 1) W (Go.WalkArith.wf_i64 ⟨by omega, by omega⟩))
      have HW2 := Lib.hid (fun W => Dt.impl_week day W (Go.WalkArith.wf_i64 ⟨by omega, by omega⟩))
      have HMD := Lib.hid (fun W => NumDiv.impl_mod ((day % 7 + 4) % 7 + 1) 7 W (Go.WalkArith.wf_i64 ⟨by omega, by omega⟩) (by decide))
      rw [NumDiv.md_in (by omega) (by omega), show ((day % 7 + 4) % 7 + 1) % 7 = ((day + 1) % 7 + 4) % 7 by omega] at HMD
      have hwb : 0 ≤ (day % 7 + 4) % 7 ∧ (day % 7 + 4) % 7 ≤ 6 := by omega
      generalize (day % 7 + 4) % 7 = k1 at HW2 HMD hwb
      generalize ((day + 1) % 7 + 4) % 7 = k2 at HW1 HMD
      have hw2 : IntKind.i64.wrap (k1 + 1) = k1 + 1 := IntWalk.i64_in _ (by omega)
      cases rd with
      | true =>
        obtain ⟨rfl, rfl⟩ : v' = v ∧ rd' = true := by have h := HFM.out rfl; simpa using h
        clear HFM
        go_wp2_with (fail)
        go_at_call 12
        refine (HW1.out _).mono ?_
        rintro e w' ⟨rfl, rfl⟩
        go_wp2_with (fail)
        go_at_call 12
        refine (HW2.out _).mono ?_
        rintro e w' ⟨rfl, rfl⟩
        go_wp2_with (fail)
        go_at_call 13
        refine (HMD.out _).mono ?_
        rintro e w' ⟨rfl, rfl⟩
        by_cases em : m = 2
        · subst em
          by_cases ed : d = 29
          · subst ed
            have hlp := HLP.out rfl rfl
            have HL := Lib.hid (fun W => Dt.impl_leap y W (Go.WalkArith.wf_i64 ⟨by omega, by omega⟩))
            rw [hlp] at HL
            clear hlp HLP
            go_wp2_with (fail)
            go_at_call 14
            refine (HL.out _).mono ?_
            rintro e w' ⟨rfl, rfl⟩
            go_wp2
            go_ret
            exact ⟨rfl, B10.out⟩
          · have hed : (d == 29) = false := beq_false_of_ne ed
            clear HLP
            go_wp2
            go_ret
            exact ⟨rfl, B10.out⟩
        · have hem : (m == 2) = false := beq_false_of_ne em
          clear HLP
          go_wp2
          go_ret
          exact ⟨rfl, B10.out⟩
      | false =>
        clear HFM
        go_wp2_with (fail)
        go_at_call 12
        refine (HW1.out _).mono ?_
        rintro e w' ⟨rfl, rfl⟩
        go_wp2_with (fail)
        go_at_call 12
        refine (HW2.out _).mono ?_
        rintro e w' ⟨rfl, rfl⟩
        go_wp2_with (fail)
        go_at_call 13
        refine (HMD.out _).mono ?_
        rintro e w' ⟨rfl, rfl⟩
        by_cases em : m = 2
        · subst em
          by_cases ed : d = 29
          · subst ed
            have hlp := HLP.out rfl rfl
            have HL := Lib.hid (fun W => Dt.impl_leap y W (Go.WalkArith.wf_i64 ⟨by omega, by omega⟩))
            rw [hlp] at HL
            clear hlp HLP
            go_wp2_with (fail)
            go_at_call 14
            refine (HL.out _).mono ?_
            rintro e w' ⟨rfl, rfl⟩
            go_wp2
            go_ret
            exact ⟨rfl, B10.out⟩
          · have hed : (d == 29) = false := beq_false_of_ne ed
            clear HLP
            go_wp2
            go_ret
            exact ⟨rfl, B10.out⟩
        · have hem : (m == 2) = false := beq_false_of_ne em
          clear HLP
          go_wp2
          go_ret
          exact ⟨rfl, B10.out⟩
    · have HC := Lib.hid (Dt.impl_civ_out day w4 (by omega))
      have hdo : day < 0 ∨ 47481 < day := by omega
      clear hdr
      go_wp2_with (fail)
      go_at_call 9
      refine HC.out.mono ?_
      rintro e w5 ⟨rfl, b5⟩
      have B6 := Lib.hid (Base.then_below B4.out b5)
      clear b5 B4 HC
      rcases hdo with hdo | hdo
      · have hx5 : ¬ 0 ≤ day := by omega
        go_wp2_with (fail)
        go_at_call 11
        refine (Cur.draw_pd _ _ _ (Cur.bytes_below HBY.out B6.out) B6.out.size).mono ?_
        rintro e w7 ⟨s, hs, rfl, b7⟩
        have B7 := Lib.hid (Base.then_below B6.out b7)
        have HP7 := Lib.hid (Dt.impl_pdate s w7 (by omega) (Dt.mds_below HM.out B7.out) (Dt.names_below HN.out B7.out) (Fmt.tens_below HTN.out B7.out))
        have HIN := Lib.hid (fun h => Dt.pdate_in (l := s) h)
        unfold Dt.PdEnd at HP7
        generalize Dt.pdate s = pr at HP7 HIN
        obtain ⟨v, rd⟩ := pr
        dsimp only at HP7 HIN
        clear b7 hs B6
        go_wp2_with (fail)
        go_at_call 7
        refine HP7.out.mono ?_
        rintro e w8 ⟨rfl, b8⟩
        have B8 := Lib.hid (Base.then_below B7.out b8)
        have HF8 := Lib.hid (Dt.fm_any v w8 (Dt.mds_below HM.out B8.out) (Dt.names_below HN.out B8.out) (Fmt.tens_below HTN.out B8.out))
        unfold Dt.FmEnd at HF8
        clear b8 B7 HP7
        go_wp2_with (fail)
        go_at_call 6
        refine HF8.out.mono ?_
        rintro e w9 ⟨l', ⟨hll', hfm'⟩, rfl, b9⟩
        have B9 := Lib.hid (Base.then_below B8.out b9)
        have HP9 := Lib.hid (Dt.impl_pdate l' w9 (by omega) (Dt.mds_below HM.out B9.out) (Dt.names_below HN.out B9.out) (Fmt.tens_below HTN.out B9.out))
        unfold Dt.PdEnd at HP9
        have HFM : Hid (rd = true → Dt.pdate l' = (v, true)) := Lib.hid (fun h => by
          rcases hfm' with ⟨_, h2, _⟩ | ⟨h1, _⟩
          · exact h2
          · exact absurd (HIN.out h) h1)
        generalize Dt.pdate l' = pr' at HP9 HFM
        obtain ⟨v', rd'⟩ := pr'
        dsimp only at HP9
        clear b9 B8 HF8 hfm' hll' HIN
        go_wp2_with (fail)
        go_at_call 7
        refine HP9.out.mono ?_
        rintro e w10 ⟨rfl, b10⟩
        have B10 := Lib.hid (Base.then_below B9.out b10)
        clear b10 B9 HP9
        have hw1 : IntKind.i64.wrap (day + 1) = day + 1 := IntWalk.i64_in _ (by omega)
        have HW1 := Lib.hid (fun W => Dt.impl_week (day + 1) W (Go.WalkArith.wf_i64 ⟨by omega, by omega⟩))
        have HW2 := Lib.hid (fun W => Dt.impl_week day W (Go.WalkArith.wf_i64 ⟨by omega, by omega⟩))
        have HMD := Lib.hid (fun W => NumDiv.impl_mod ((day % 7 + 4) % 7 + 1) 7 W (Go.WalkArith.wf_i64 ⟨by omega, by omega⟩) (by decide))
        rw [NumDiv.md_in (by omega) (by omega), show ((day % 7 + 4) % 7 + 1) % 7 = ((day + 1) % 7 + 4) % 7 by omega] at HMD
        have hwb : 0 ≤ (day % 7 + 4) % 7 ∧ (day % 7 + 4) % 7 ≤ 6 := by omega
        generalize (day % 7 + 4) % 7 = k1 at HW2 HMD hwb
        generalize ((day + 1) % 7 + 4) % 7 = k2 at HW1 HMD
        have hw2 : IntKind.i64.wrap (k1 + 1) = k1 + 1 := IntWalk.i64_in _ (by omega)
        cases rd with
        | true =>
          obtain ⟨rfl, rfl⟩ : v' = v ∧ rd' = true := by have h := HFM.out rfl; simpa using h
          clear HFM
          go_wp2_with (fail)
          go_at_call 12
          refine (HW1.out _).mono ?_
          rintro e w' ⟨rfl, rfl⟩
          go_wp2_with (fail)
          go_at_call 12
          refine (HW2.out _).mono ?_
          rintro e w' ⟨rfl, rfl⟩
          go_wp2_with (fail)
          go_at_call 13
          refine (HMD.out _).mono ?_
          rintro e w' ⟨rfl, rfl⟩
          go_wp2
          go_ret
          exact ⟨rfl, B10.out⟩
        | false =>
          clear HFM
          go_wp2_with (fail)
          go_at_call 12
          refine (HW1.out _).mono ?_
          rintro e w' ⟨rfl, rfl⟩
          go_wp2_with (fail)
          go_at_call 12
          refine (HW2.out _).mono ?_
          rintro e w' ⟨rfl, rfl⟩
          go_wp2_with (fail)
          go_at_call 13
          refine (HMD.out _).mono ?_
          rintro e w' ⟨rfl, rfl⟩
          go_wp2
          go_ret
          exact ⟨rfl, B10.out⟩
      · have hx5 : 0 ≤ day := by omega
        have hx6 : ¬ day ≤ 47481 := by omega
        go_wp2_with (fail)
        go_at_call 11
        refine (Cur.draw_pd _ _ _ (Cur.bytes_below HBY.out B6.out) B6.out.size).mono ?_
        rintro e w7 ⟨s, hs, rfl, b7⟩
        have B7 := Lib.hid (Base.then_below B6.out b7)
        have HP7 := Lib.hid (Dt.impl_pdate s w7 (by omega) (Dt.mds_below HM.out B7.out) (Dt.names_below HN.out B7.out) (Fmt.tens_below HTN.out B7.out))
        have HIN := Lib.hid (fun h => Dt.pdate_in (l := s) h)
        unfold Dt.PdEnd at HP7
        generalize Dt.pdate s = pr at HP7 HIN
        obtain ⟨v, rd⟩ := pr
        dsimp only at HP7 HIN
        clear b7 hs B6
        go_wp2_with (fail)
        go_at_call 7
        refine HP7.out.mono ?_
        rintro e w8 ⟨rfl, b8⟩
        have B8 := Lib.hid (Base.then_below B7.out b8)
        have HF8 := Lib.hid (Dt.fm_any v w8 (Dt.mds_below HM.out B8.out) (Dt.names_below HN.out B8.out) (Fmt.tens_below HTN.out B8.out))
        unfold Dt.FmEnd at HF8
        clear b8 B7 HP7
        go_wp2_with (fail)
        go_at_call 6
        refine HF8.out.mono ?_
        rintro e w9 ⟨l', ⟨hll', hfm'⟩, rfl, b9⟩
        have B9 := Lib.hid (Base.then_below B8.out b9)
        have HP9 := Lib.hid (Dt.impl_pdate l' w9 (by omega) (Dt.mds_below HM.out B9.out) (Dt.names_below HN.out B9.out) (Fmt.tens_below HTN.out B9.out))
        unfold Dt.PdEnd at HP9
        have HFM : Hid (rd = true → Dt.pdate l' = (v, true)) := Lib.hid (fun h => by
          rcases hfm' with ⟨_, h2, _⟩ | ⟨h1, _⟩
          · exact h2
          · exact absurd (HIN.out h) h1)
        generalize Dt.pdate l' = pr' at HP9 HFM
        obtain ⟨v', rd'⟩ := pr'
        dsimp only at HP9
        clear b9 B8 HF8 hfm' hll' HIN
        go_wp2_with (fail)
        go_at_call 7
        refine HP9.out.mono ?_
        rintro e w10 ⟨rfl, b10⟩
        have B10 := Lib.hid (Base.then_below B9.out b10)
        clear b10 B9 HP9
        have hw1 : IntKind.i64.wrap (day + 1) = day + 1 := IntWalk.i64_in _ (by omega)
        have HW1 := Lib.hid (fun W => Dt.impl_week (day + 1) W (Go.WalkArith.wf_i64 ⟨by omega, by omega⟩))
        have HW2 := Lib.hid (fun W => Dt.impl_week day W (Go.WalkArith.wf_i64 ⟨by omega, by omega⟩))
        have HMD := Lib.hid (fun W => NumDiv.impl_mod ((day % 7 + 4) % 7 + 1) 7 W (Go.WalkArith.wf_i64 ⟨by omega, by omega⟩) (by decide))
        rw [NumDiv.md_in (by omega) (by omega), show ((day % 7 + 4) % 7 + 1) % 7 = ((day + 1) % 7 + 4) % 7 by omega] at HMD
        have hwb : 0 ≤ (day % 7 + 4) % 7 ∧ (day % 7 + 4) % 7 ≤ 6 := by omega
        generalize (day % 7 + 4) % 7 = k1 at HW2 HMD hwb
        generalize ((day + 1) % 7 + 4) % 7 = k2 at HW1 HMD
        have hw2 : IntKind.i64.wrap (k1 + 1) = k1 + 1 := IntWalk.i64_in _ (by omega)
        cases rd with
        | true =>
          obtain ⟨rfl, rfl⟩ : v' = v ∧ rd' = true := by have h := HFM.out rfl; simpa using h
          clear HFM
          go_wp2_with (fail)
          go_at_call 12
          refine (HW1.out _).mono ?_
          rintro e w' ⟨rfl, rfl⟩
          go_wp2_with (fail)
          go_at_call 12
          refine (HW2.out _).mono ?_
          rintro e w' ⟨rfl, rfl⟩
          go_wp2_with (fail)
          go_at_call 13
          refine (HMD.out _).mono ?_
          rintro e w' ⟨rfl, rfl⟩
          go_wp2
          go_ret
          exact ⟨rfl, B10.out⟩
        | false =>
          clear HFM
          go_wp2_with (fail)
          go_at_call 12
          refine (HW1.out _).mono ?_
          rintro e w' ⟨rfl, rfl⟩
          go_wp2_with (fail)
          go_at_call 12
          refine (HW2.out _).mono ?_
          rintro e w' ⟨rfl, rfl⟩
          go_wp2_with (fail)
          go_at_call 13
          refine (HMD.out _).mono ?_
          rintro e w' ⟨rfl, rfl⟩
          go_wp2
          go_ret
          exact ⟨rfl, B10.out⟩
  · rw [hp] at HP
    have hd : t < 0 ∨ 4102444799 < t := by unfold Dt.InT at hin; omega
    clear hp
    rcases hd with hd | hd
    · have hx0 : ¬ 0 ≤ t := by omega
      go_wp2_with (fail)
      go_at_call 7
      refine HP.out.mono ?_
      rintro e w3 ⟨rfl, b3⟩
      have B3 := Lib.hid (Base.then_below B2.out b3)
      clear b3 HP B2
      dsimp only
      go_wp2_with (fail)
      go_at_call 8
      refine (Cur.draw_cv _ _ _ (Cur.bytes_below HBY.out B3.out) B3.out.size).mono ?_
      rintro e w4 ⟨day, ⟨hd0, hd1⟩, rfl, b4⟩
      have B4 := Lib.hid (Base.then_below B3.out b4)
      clear b4 B3
      by_cases hdr : 0 ≤ day ∧ day ≤ 47481
      · have HC := Lib.hid (Dt.impl_civ day w4 hdr.1 hdr.2 (Dt.mds_below HM.out B4.out))
        unfold Dt.Civ at HC
        obtain ⟨hr0, hr1⟩ := hdr
        go_wp2_with (fail)
        go_at_call 9
        refine HC.out.mono ?_
        rintro e w5 ⟨y, m, d, hcv, rfl, b5⟩
        have B5 := Lib.hid (Base.then_below B4.out b5)
        obtain ⟨q1, q2, q3, q4, q5, q6⟩ := Dt.cv_bd hcv
        have HD := Lib.hid (Dt.impl_days y m d w5 (Go.WalkArith.wf_i64 ⟨by omega, by omega⟩) (Dt.mds_below HM.out B5.out))
        rw [Dt.dof_cv hcv] at HD
        have HLP := Lib.hid (fun h1 h2 => Dt.leap_ok hcv h1 h2)
        unfold Dt.Num at HD
        clear b5 B4 HC hcv
        go_wp2_with (fail)
        go_at_call 10
        refine HD.out.mono ?_
        rintro e w6 ⟨rfl, b6⟩
        have B6 := Lib.hid (Base.then_below B5.out b6)
        clear b6 B5 HD
        go_wp2_with (fail)
        go_at_call 11
        refine (Cur.draw_pd _ _ _ (Cur.bytes_below HBY.out B6.out) B6.out.size).mono ?_
        rintro e w7 ⟨s, hs, rfl, b7⟩
        have B7 := Lib.hid (Base.then_below B6.out b7)
        have HP7 := Lib.hid (Dt.impl_pdate s w7 (by omega) (Dt.mds_below HM.out B7.out) (Dt.names_below HN.out B7.out) (Fmt.tens_below HTN.out B7.out))
        have HIN := Lib.hid (fun h => Dt.pdate_in (l := s) h)
        unfold Dt.PdEnd at HP7
        generalize Dt.pdate s = pr at HP7 HIN
        obtain ⟨v, rd⟩ := pr
        dsimp only at HP7 HIN
        clear b7 hs B6
        go_wp2_with (fail)
        go_at_call 7
        refine HP7.out.mono ?_
        rintro e w8 ⟨rfl, b8⟩
        have B8 := Lib.hid (Base.then_below B7.out b8)
        have HF8 := Lib.hid (Dt.fm_any v w8 (Dt.mds_below HM.out B8.out) (Dt.names_below HN.out B8.out) (Fmt.tens_below HTN.out B8.out))
        unfold Dt.FmEnd at HF8
        clear b8 B7 HP7
        go_wp2_with (fail)
        go_at_call 6
        refine HF8.out.mono ?_
        rintro e w9 ⟨l', ⟨hll', hfm'⟩, rfl, b9⟩
        have B9 := Lib.hid (Base.then_below B8.out b9)
        have HP9 := Lib.hid (Dt.impl_pdate l' w9 (by omega) (Dt.mds_below HM.out B9.out) (Dt.names_below HN.out B9.out) (Fmt.tens_below HTN.out B9.out))
        unfold Dt.PdEnd at HP9
        have HFM : Hid (rd = true → Dt.pdate l' = (v, true)) := Lib.hid (fun h => by
          rcases hfm' with ⟨_, h2, _⟩ | ⟨h1, _⟩
          · exact h2
          · exact absurd (HIN.out h) h1)
        generalize Dt.pdate l' = pr' at HP9 HFM
        obtain ⟨v', rd'⟩ := pr'
        dsimp only at HP9
        clear b9 B8 HF8 hfm' hll' HIN
        go_wp2_with (fail)
        go_at_call 7
        refine HP9.out.mono ?_
        rintro e w10 ⟨rfl, b10⟩
        have B10 := Lib.hid (Base.then_below B9.out b10)
        clear b10 B9 HP9
        have hw1 : IntKind.i64.wrap (day + 1) = day + 1 := IntWalk.i64_in _ (by omega)
        have HW1 := Lib.hid (fun W => Dt.impl_week (day + 1) W (Go.WalkArith.wf_i64 ⟨by omega, by omega⟩))
        have HW2 := Lib.hid (fun W => Dt.impl_week day W (Go.WalkArith.wf_i64 ⟨by omega, by omega⟩))
        have HMD := Lib.hid (fun W => NumDiv.impl_mod ((day % 7 + 4) % 7 + 1) 7 W (Go.WalkArith.wf_i64 ⟨by omega, by omega⟩) (by decide))
        rw [NumDiv.md_in (by omega) (by omega), show ((day % 7 + 4) % 7 + 1) % 7 = ((day + 1) % 7 + 4) % 7 by omega] at HMD
        have hwb : 0 ≤ (day % 7 + 4) % 7 ∧ (day % 7 + 4) % 7 ≤ 6 := by omega
        generalize (day % 7 + 4) % 7 = k1 at HW2 HMD hwb
        generalize ((day + 1) % 7 + 4) % 7 = k2 at HW1 HMD
        have hw2 : IntKind.i64.wrap (k1 + 1) = k1 + 1 := IntWalk.i64_in _ (by omega)
        cases rd with
        | true =>
          obtain ⟨rfl, rfl⟩ : v' = v ∧ rd' = true := by have h := HFM.out rfl; simpa using h
          clear HFM
          go_wp2_with (fail)
          go_at_call 12
          refine (HW1.out _).mono ?_
          rintro e w' ⟨rfl, rfl⟩
          go_wp2_with (fail)
          go_at_call 12
          refine (HW2.out _).mono ?_
          rintro e w' ⟨rfl, rfl⟩
          go_wp2_with (fail)
          go_at_call 13
          refine (HMD.out _).mono ?_
          rintro e w' ⟨rfl, rfl⟩
          by_cases em : m = 2
          · subst em
            by_cases ed : d = 29
            · subst ed
              have hlp := HLP.out rfl rfl
              have HL := Lib.hid (fun W => Dt.impl_leap y W (Go.WalkArith.wf_i64 ⟨by omega, by omega⟩))
              rw [hlp] at HL
              clear hlp HLP
              go_wp2_with (fail)
              go_at_call 14
              refine (HL.out _).mono ?_
              rintro e w' ⟨rfl, rfl⟩
              go_wp2
              go_ret
              exact ⟨rfl, B10.out⟩
            · have hed : (d == 29) = false := beq_false_of_ne ed
              clear HLP
              go_wp2
              go_ret
              exact ⟨rfl, B10.out⟩
          · have hem : (m == 2) = false := beq_false_of_ne em
            clear HLP
            go_wp2
            go_ret
            exact ⟨rfl, B10.out⟩
        | false =>
          clear HFM
          go_wp2_with (fail)
          go_at_call 12
          refine (HW1.out _).mono ?_
          rintro e w' ⟨rfl, rfl⟩
          go_wp2_with (fail)
          go_at_call 12
          refine (HW2.out _).mono ?_
          rintro e w' ⟨rfl, rfl⟩
          go_wp2_with (fail)
          go_at_call 13
          refine (HMD.out _).mono ?_
          rintro e w' ⟨rfl, rfl⟩
          by_cases em : m = 2
          · subst em
            by_cases ed : d = 29
            · subst ed
              have hlp := HLP.out rfl rfl
              have HL := Lib.hid (fun W => Dt.impl_leap y W (Go.WalkArith.wf_i64 ⟨by omega, by omega⟩))
              rw [hlp] at HL
              clear hlp HLP
              go_wp2_with (fail)
              go_at_call 14
              refine (HL.out _).mono ?_
              rintro e w' ⟨rfl, rfl⟩
              go_wp2
              go_ret
              exact ⟨rfl, B10.out⟩
            · have hed : (d == 29) = false := beq_false_of_ne ed
              clear HLP
              go_wp2
              go_ret
              exact ⟨rfl, B10.out⟩
          · have hem : (m == 2) = false := beq_false_of_ne em
            clear HLP
            go_wp2
            go_ret
            exact ⟨rfl, B10.out⟩
      · have HC := Lib.hid (Dt.impl_civ_out day w4 (by omega))
        have hdo : day < 0 ∨ 47481 < day := by omega
        clear hdr
        go_wp2_with (fail)
        go_at_call 9
        refine HC.out.mono ?_
        rintro e w5 ⟨rfl, b5⟩
        have B6 := Lib.hid (Base.then_below B4.out b5)
        clear b5 B4 HC
        rcases hdo with hdo | hdo
        · have hx5 : ¬ 0 ≤ day := by omega
          go_wp2_with (fail)
          go_at_call 11
          refine (Cur.draw_pd _ _ _ (Cur.bytes_below HBY.out B6.out) B6.out.size).mono ?_
          rintro e w7 ⟨s, hs, rfl, b7⟩
          have B7 := Lib.hid (Base.then_below B6.out b7)
          have HP7 := Lib.hid (Dt.impl_pdate s w7 (by omega) (Dt.mds_below HM.out B7.out) (Dt.names_below HN.out B7.out) (Fmt.tens_below HTN.out B7.out))
          have HIN := Lib.hid (fun h => Dt.pdate_in (l := s) h)
          unfold Dt.PdEnd at HP7
          generalize Dt.pdate s = pr at HP7 HIN
          obtain ⟨v, rd⟩ := pr
          dsimp only at HP7 HIN
          clear b7 hs B6
          go_wp2_with (fail)
          go_at_call 7
          refine HP7.out.mono ?_
          rintro e w8 ⟨rfl, b8⟩
          have B8 := Lib.hid (Base.then_below B7.out b8)
          have HF8 := Lib.hid (Dt.fm_any v w8 (Dt.mds_below HM.out B8.out) (Dt.names_below HN.out B8.out) (Fmt.tens_below HTN.out B8.out))
          unfold Dt.FmEnd at HF8
          clear b8 B7 HP7
          go_wp2_with (fail)
          go_at_call 6
          refine HF8.out.mono ?_
          rintro e w9 ⟨l', ⟨hll', hfm'⟩, rfl, b9⟩
          have B9 := Lib.hid (Base.then_below B8.out b9)
          have HP9 := Lib.hid (Dt.impl_pdate l' w9 (by omega) (Dt.mds_below HM.out B9.out) (Dt.names_below HN.out B9.out) (Fmt.tens_below HTN.out B9.out))
          unfold Dt.PdEnd at HP9
          have HFM : Hid (rd = true → Dt.pdate l' = (v, true)) := Lib.hid (fun h => by
            rcases hfm' with ⟨_, h2, _⟩ | ⟨h1, _⟩
            · exact h2
            · exact absurd (HIN.out h) h1)
          generalize Dt.pdate l' = pr' at HP9 HFM
          obtain ⟨v', rd'⟩ := pr'
          dsimp only at HP9
          clear b9 B8 HF8 hfm' hll' HIN
          go_wp2_with (fail)
          go_at_call 7
          refine HP9.out.mono ?_
          rintro e w10 ⟨rfl, b10⟩
          have B10 := Lib.hid (Base.then_below B9.out b10)
          clear b10 B9 HP9
          have hw1 : IntKind.i64.wrap (day + 1) = day + 1 := IntWalk.i64_in _ (by omega)
          have HW1 := Lib.hid (fun W => Dt.impl_week (day + 1) W (Go.WalkArith.wf_i64 ⟨by omega, by omega⟩))
          have HW2 := Lib.hid (fun W => Dt.impl_week day W (Go.WalkArith.wf_i64 ⟨by omega, by omega⟩))
          have HMD := Lib.hid (fun W => NumDiv.impl_mod ((day % 7 + 4) % 7 + 1) 7 W (Go.WalkArith.wf_i64 ⟨by omega, by omega⟩) (by decide))
          rw [NumDiv.md_in (by omega) (by omega), show ((day % 7 + 4) % 7 + 1) % 7 = ((day + 1) % 7 + 4) % 7 by omega] at HMD
          have hwb : 0 ≤ (day % 7 + 4) % 7 ∧ (day % 7 + 4) % 7 ≤ 6 := by omega
          generalize (day % 7 + 4) % 7 = k1 at HW2 HMD hwb
          generalize ((day + 1) % 7 + 4) % 7 = k2 at HW1 HMD
          have hw2 : IntKind.i64.wrap (k1 + 1) = k1 + 1 := IntWalk.i64_in _ (by omega)
          cases rd with
          | true =>
            obtain ⟨rfl, rfl⟩ : v' = v ∧ rd' = true := by have h := HFM.out rfl; simpa using h
            clear HFM
            go_wp2_with (fail)
            go_at_call 12
            refine (HW1.out _).mono ?_
            rintro e w' ⟨rfl, rfl⟩
            go_wp2_with (fail)
            go_at_call 12
            refine (HW2.out _).mono ?_
            rintro e w' ⟨rfl, rfl⟩
            go_wp2_with (fail)
            go_at_call 13
            refine (HMD.out _).mono ?_
            rintro e w' ⟨rfl, rfl⟩
            go_wp2
            go_ret
            exact ⟨rfl, B10.out⟩
          | false =>
            clear HFM
            go_wp2_with (fail)
            go_at_call 12
            refine (HW1.out _).mono ?_
            rintro e w' ⟨rfl, rfl⟩
            go_wp2_with (fail)
            go_at_call 12
            refine (HW2.out _).mono ?_
            rintro e w' ⟨rfl, rfl⟩
            go_wp2_with (fail)
            go_at_call 13
            refine (HMD.out _).mono ?_
            rintro e w' ⟨rfl, rfl⟩
            go_wp2
            go_ret
            exact ⟨rfl, B10.out⟩
        · have hx5 : 0 ≤ day := by omega
          have hx6 : ¬ day ≤ 47481 := by omega
          go_wp2_with (fail)
          go_at_call 11
          refine (Cur.draw_pd _ _ _ (Cur.bytes_below HBY.out B6.out) B6.out.size).mono ?_
          rintro e w7 ⟨s, hs, rfl, b7⟩
          have B7 := Lib.hid (Base.then_below B6.out b7)
          have HP7 := Lib.hid (Dt.impl_pdate s w7 (by omega) (Dt.mds_below HM.out B7.out) (Dt.names_below HN.out B7.out) (Fmt.tens_below HTN.out B7.out))
          have HIN := Lib.hid (fun h => Dt.pdate_in (l := s) h)
          unfold Dt.PdEnd at HP7
          generalize Dt.pdate s = pr at HP7 HIN
          obtain ⟨v, rd⟩ := pr
          dsimp only at HP7 HIN
          clear b7 hs B6
          go_wp2_with (fail)
          go_at_call 7
          refine HP7.out.mono ?_
          rintro e w8 ⟨rfl, b8⟩
          have B8 := Lib.hid (Base.then_below B7.out b8)
          have HF8 := Lib.hid (Dt.fm_any v w8 (Dt.mds_below HM.out B8.out) (Dt.names_below HN.out B8.out) (Fmt.tens_below HTN.out B8.out))
          unfold Dt.FmEnd at HF8
          clear b8 B7 HP7
          go_wp2_with (fail)
          go_at_call 6
          refine HF8.out.mono ?_
          rintro e w9 ⟨l', ⟨hll', hfm'⟩, rfl, b9⟩
          have B9 := Lib.hid (Base.then_below B8.out b9)
          have HP9 := Lib.hid (Dt.impl_pdate l' w9 (by omega) (Dt.mds_below HM.out B9.out) (Dt.names_below HN.out B9.out) (Fmt.tens_below HTN.out B9.out))
          unfold Dt.PdEnd at HP9
          have HFM : Hid (rd = true → Dt.pdate l' = (v, true)) := Lib.hid (fun h => by
            rcases hfm' with ⟨_, h2, _⟩ | ⟨h1, _⟩
            · exact h2
            · exact absurd (HIN.out h) h1)
          generalize Dt.pdate l' = pr' at HP9 HFM
          obtain ⟨v', rd'⟩ := pr'
          dsimp only at HP9
          clear b9 B8 HF8 hfm' hll' HIN
          go_wp2_with (fail)
          go_at_call 7
          refine HP9.out.mono ?_
          rintro e w10 ⟨rfl, b10⟩
          have B10 := Lib.hid (Base.then_below B9.out b10)
          clear b10 B9 HP9
          have hw1 : IntKind.i64.wrap (day + 1) = day + 1 := IntWalk.i64_in _ (by omega)
          have HW1 := Lib.hid (fun W => Dt.impl_week (day + 1) W (Go.WalkArith.wf_i64 ⟨by omega, by omega⟩))
          have HW2 := Lib.hid (fun W => Dt.impl_week day W (Go.WalkArith.wf_i64 ⟨by omega, by omega⟩))
          have HMD := Lib.hid (fun W => NumDiv.impl_mod ((day % 7 + 4) % 7 + 1) 7 W (Go.WalkArith.wf_i64 ⟨by omega, by omega⟩) (by decide))
          rw [NumDiv.md_in (by omega) (by omega), show ((day % 7 + 4) % 7 + 1) % 7 = ((day + 1) % 7 + 4) % 7 by omega] at HMD
          have hwb : 0 ≤ (day % 7 + 4) % 7 ∧ (day % 7 + 4) % 7 ≤ 6 := by omega
          generalize (day % 7 + 4) % 7 = k1 at HW2 HMD hwb
          generalize ((day + 1) % 7 + 4) % 7 = k2 at HW1 HMD
          have hw2 : IntKind.i64.wrap (k1 + 1) = k1 + 1 := IntWalk.i64_in _ (by omega)
          cases rd with
          | true =>
            obtain ⟨rfl, rfl⟩ : v' = v ∧ rd' = true := by have h := HFM.out rfl; simpa using h
            clear HFM
            go_wp2_with (fail)
            go_at_call 12
            refine (HW1.out _).mono ?_
            rintro e w' ⟨rfl, rfl⟩
            go_wp2_with (fail)
            go_at_call 12
            refine (HW2.out _).mono ?_
            rintro e w' ⟨rfl, rfl⟩
            go_wp2_with (fail)
            go_at_call 13
            refine (HMD.out _).mono ?_
            rintro e w' ⟨rfl, rfl⟩
            go_wp2
            go_ret
            exact ⟨rfl, B10.out⟩
          | false =>
            clear HFM
            go_wp2_with (fail)
            go_at_call 12
            refine (HW1.out _).mono ?_
            rintro e w' ⟨rfl, rfl⟩
            go_wp2_with (fail)
            go_at_call 12
            refine (HW2.out _).mono ?_
            rintro e w' ⟨rfl, rfl⟩
            go_wp2_with (fail)
            go_at_call 13
            refine (HMD.out _).mono ?_
            rintro e w' ⟨rfl, rfl⟩
            go_wp2
            go_ret
            exact ⟨rfl, B10.out⟩
    · have hx1 : 0 ≤ t := by omega
      have hx3 : ¬ t ≤ 4102444799 := by omega
      go_wp2_with (fail)
      go_at_call 7
      refine HP.out.mono ?_
      rintro e w3 ⟨rfl, b3⟩
      have B3 := Lib.hid (Base.then_below B2.out b3)
      clear b3 HP B2
      dsimp only
      go_wp2_with (fail)
      go_at_call 8
      refine (Cur.draw_cv _ _ _ (Cur.bytes_below HBY.out B3.out) B3.out.size).mono ?_
      rintro e w4 ⟨day, ⟨hd0, hd1⟩, rfl, b4⟩
      have B4 := Lib.hid (Base.then_below B3.out b4)
      clear b4 B3
      by_cases hdr : 0 ≤ day ∧ day ≤ 47481
      · have HC := Lib.hid (Dt.impl_civ day w4 hdr.1 hdr.2 (Dt.mds_below HM.out B4.out))
        unfold Dt.Civ at HC
        obtain ⟨hr0, hr1⟩ := hdr
        go_wp2_with (fail)
        go_at_call 9
        refine HC.out.mono ?_
        rintro e w5 ⟨y, m, d, hcv, rfl, b5⟩
        have B5 := Lib.hid (Base.then_below B4.out b5)
        obtain ⟨q1, q2, q3, q4, q5, q6⟩ := Dt.cv_bd hcv
        have HD := Lib.hid (Dt.impl_days y m d w5 (Go.WalkArith.wf_i64 ⟨by omega, by omega⟩) (Dt.mds_below HM.out B5.out))
        rw [Dt.dof_cv hcv] at HD
        have HLP := Lib.hid (fun h1 h2 => Dt.leap_ok hcv h1 h2)
        unfold Dt.Num at HD
        clear b5 B4 HC hcv
        go_wp2_with (fail)
        go_at_call 10
        refine HD.out.mono ?_
        rintro e w6 ⟨rfl, b6⟩
        have B6 := Lib.hid (Base.then_below B5.out b6)
        clear b6 B5 HD
        go_wp2_with (fail)
        go_at_call 11
        refine (Cur.draw_pd _ _ _ (Cur.bytes_below HBY.out B6.out) B6.out.size).mono ?_
        rintro e w7 ⟨s, hs, rfl, b7⟩
        have B7 := Lib.hid (Base.then_below B6.out b7)
        have HP7 := Lib.hid (Dt.impl_pdate s w7 (by omega) (Dt.mds_below HM.out B7.out) (Dt.names_below HN.out B7.out) (Fmt.tens_below HTN.out B7.out))
        have HIN := Lib.hid (fun h => Dt.pdate_in (l := s) h)
        unfold Dt.PdEnd at HP7
        generalize Dt.pdate s = pr at HP7 HIN
        obtain ⟨v, rd⟩ := pr
        dsimp only at HP7 HIN
        clear b7 hs B6
        go_wp2_with (fail)
        go_at_call 7
        refine HP7.out.mono ?_
        rintro e w8 ⟨rfl, b8⟩
        have B8 := Lib.hid (Base.then_below B7.out b8)
        have HF8 := Lib.hid (Dt.fm_any v w8 (Dt.mds_below HM.out B8.out) (Dt.names_below HN.out B8.out) (Fmt.tens_below HTN.out B8.out))
        unfold Dt.FmEnd at HF8
        clear b8 B7 HP7
        go_wp2_with (fail)
        go_at_call 6
        refine HF8.out.mono ?_
        rintro e w9 ⟨l', ⟨hll', hfm'⟩, rfl, b9⟩
        have B9 := Lib.hid (Base.then_below B8.out b9)
        have HP9 := Lib.hid (Dt.impl_pdate l' w9 (by omega) (Dt.mds_below HM.out B9.out) (Dt.names_below HN.out B9.out) (Fmt.tens_below HTN.out B9.out))
        unfold Dt.PdEnd at HP9
        have HFM : Hid (rd = true → Dt.pdate l' = (v, true)) := Lib.hid (fun h => by
          rcases hfm' with ⟨_, h2, _⟩ | ⟨h1, _⟩
          · exact h2
          · exact absurd (HIN.out h) h1)
        generalize Dt.pdate l' = pr' at HP9 HFM
        obtain ⟨v', rd'⟩ := pr'
        dsimp only at HP9
        clear b9 B8 HF8 hfm' hll' HIN
        go_wp2_with (fail)
        go_at_call 7
        refine HP9.out.mono ?_
        rintro e w10 ⟨rfl, b10⟩
        have B10 := Lib.hid (Base.then_below B9.out b10)
        clear b10 B9 HP9
        have hw1 : IntKind.i64.wrap (day + 1) = day + 1 := IntWalk.i64_in _ (by omega)
        have HW1 := Lib.hid (fun W => Dt.impl_week (day + 1) W (Go.WalkArith.wf_i64 ⟨by omega, by omega⟩))
        have HW2 := Lib.hid (fun W => Dt.impl_week day W (Go.WalkArith.wf_i64 ⟨by omega, by omega⟩))
        have HMD := Lib.hid (fun W => NumDiv.impl_mod ((day % 7 + 4) % 7 + 1) 7 W (Go.WalkArith.wf_i64 ⟨by omega, by omega⟩) (by decide))
        rw [NumDiv.md_in (by omega) (by omega), show ((day % 7 + 4) % 7 + 1) % 7 = ((day + 1) % 7 + 4) % 7 by omega] at HMD
        have hwb : 0 ≤ (day % 7 + 4) % 7 ∧ (day % 7 + 4) % 7 ≤ 6 := by omega
        generalize (day % 7 + 4) % 7 = k1 at HW2 HMD hwb
        generalize ((day + 1) % 7 + 4) % 7 = k2 at HW1 HMD
        have hw2 : IntKind.i64.wrap (k1 + 1) = k1 + 1 := IntWalk.i64_in _ (by omega)
        cases rd with
        | true =>
          obtain ⟨rfl, rfl⟩ : v' = v ∧ rd' = true := by have h := HFM.out rfl; simpa using h
          clear HFM
          go_wp2_with (fail)
          go_at_call 12
          refine (HW1.out _).mono ?_
          rintro e w' ⟨rfl, rfl⟩
          go_wp2_with (fail)
          go_at_call 12
          refine (HW2.out _).mono ?_
          rintro e w' ⟨rfl, rfl⟩
          go_wp2_with (fail)
          go_at_call 13
          refine (HMD.out _).mono ?_
          rintro e w' ⟨rfl, rfl⟩
          by_cases em : m = 2
          · subst em
            by_cases ed : d = 29
            · subst ed
              have hlp := HLP.out rfl rfl
              have HL := Lib.hid (fun W => Dt.impl_leap y W (Go.WalkArith.wf_i64 ⟨by omega, by omega⟩))
              rw [hlp] at HL
              clear hlp HLP
              go_wp2_with (fail)
              go_at_call 14
              refine (HL.out _).mono ?_
              rintro e w' ⟨rfl, rfl⟩
              go_wp2
              go_ret
              exact ⟨rfl, B10.out⟩
            · have hed : (d == 29) = false := beq_false_of_ne ed
              clear HLP
              go_wp2
              go_ret
              exact ⟨rfl, B10.out⟩
          · have hem : (m == 2) = false := beq_false_of_ne em
            clear HLP
            go_wp2
            go_ret
            exact ⟨rfl, B10.out⟩
        | false =>
          clear HFM
          go_wp2_with (fail)
          go_at_call 12
          refine (HW1.out _).mono ?_
          rintro e w' ⟨rfl, rfl⟩
          go_wp2_with (fail)
          go_at_call 12
          refine (HW2.out _).mono ?_
          rintro e w' ⟨rfl, rfl⟩
          go_wp2_with (fail)
          go_at_call 13
          refine (HMD.out _).mono ?_
          rintro e w' ⟨rfl, rfl⟩
          by_cases em : m = 2
          · subst em
            by_cases ed : d = 29
            · subst ed
              have hlp := HLP.out rfl rfl
              have HL := Lib.hid (fun W => Dt.impl_leap y W (Go.WalkArith.wf_i64 ⟨by omega, by omega⟩))
              rw [hlp] at HL
              clear hlp HLP
              go_wp2_with (fail)
              go_at_call 14
              refine (HL.out _).mono ?_
              rintro e w' ⟨rfl, rfl⟩
              go_wp2
              go_ret
              exact ⟨rfl, B10.out⟩
            · have hed : (d == 29) = false := beq_false_of_ne ed
              clear HLP
              go_wp2
              go_ret
              exact ⟨rfl, B10.out⟩
          · have hem : (m == 2) = false := beq_false_of_ne em
            clear HLP
            go_wp2
            go_ret
            exact ⟨rfl, B10.out⟩
      · have HC := Lib.hid (Dt.impl_civ_out day w4 (by omega))
        have hdo : day < 0 ∨ 47481 < day := by omega
        clear hdr
        go_wp2_with (fail)
        go_at_call 9
        refine HC.out.mono ?_
        rintro e w5 ⟨rfl, b5⟩
        have B6 := Lib.hid (Base.then_below B4.out b5)
        clear b5 B4 HC
        rcases hdo with hdo | hdo
        · have hx5 : ¬ 0 ≤ day := by omega
          go_wp2_with (fail)
          go_at_call 11
          refine (Cur.draw_pd _ _ _ (Cur.bytes_below HBY.out B6.out) B6.out.size).mono ?_
          rintro e w7 ⟨s, hs, rfl, b7⟩
          have B7 := Lib.hid (Base.then_below B6.out b7)
          have HP7 := Lib.hid (Dt.impl_pdate s w7 (by omega) (Dt.mds_below HM.out B7.out) (Dt.names_below HN.out B7.out) (Fmt.tens_below HTN.out B7.out))
          have HIN := Lib.hid (fun h => Dt.pdate_in (l := s) h)
          unfold Dt.PdEnd at HP7
          generalize Dt.pdate s = pr at HP7 HIN
          obtain ⟨v, rd⟩ := pr
          dsimp only at HP7 HIN
          clear b7 hs B6
          go_wp2_with (fail)
          go_at_call 7
          refine HP7.out.mono ?_
          rintro e w8 ⟨rfl, b8⟩
          have B8 := Lib.hid (Base.then_below B7.out b8)
          have HF8 := Lib.hid (Dt.fm_any v w8 (Dt.mds_below HM.out B8.out) (Dt.names_below HN.out B8.out) (Fmt.tens_below HTN.out B8.out))
          unfold Dt.FmEnd at HF8
          clear b8 B7 HP7
          go_wp2_with (fail)
          go_at_call 6
          refine HF8.out.mono ?_
          rintro e w9 ⟨l', ⟨hll', hfm'⟩, rfl, b9⟩
          have B9 := Lib.hid (Base.then_below B8.out b9)
          have HP9 := Lib.hid (Dt.impl_pdate l' w9 (by omega) (Dt.mds_below HM.out B9.out) (Dt.names_below HN.out B9.out) (Fmt.tens_below HTN.out B9.out))
          unfold Dt.PdEnd at HP9
          have HFM : Hid (rd = true → Dt.pdate l' = (v, true)) := Lib.hid (fun h => by
            rcases hfm' with ⟨_, h2, _⟩ | ⟨h1, _⟩
            · exact h2
            · exact absurd (HIN.out h) h1)
          generalize Dt.pdate l' = pr' at HP9 HFM
          obtain ⟨v', rd'⟩ := pr'
          dsimp only at HP9
          clear b9 B8 HF8 hfm' hll' HIN
          go_wp2_with (fail)
          go_at_call 7
          refine HP9.out.mono ?_
          rintro e w10 ⟨rfl, b10⟩
          have B10 := Lib.hid (Base.then_below B9.out b10)
          clear b10 B9 HP9
          have hw1 : IntKind.i64.wrap (day + 1) = day + 1 := IntWalk.i64_in _ (by omega)
          have HW1 := Lib.hid (fun W => Dt.impl_week (day + 1) W (Go.WalkArith.wf_i64 ⟨by omega, by omega⟩))
          have HW2 := Lib.hid (fun W => Dt.impl_week day W (Go.WalkArith.wf_i64 ⟨by omega, by omega⟩))
          have HMD := Lib.hid (fun W => NumDiv.impl_mod ((day % 7 + 4) % 7 + 1) 7 W (Go.WalkArith.wf_i64 ⟨by omega, by omega⟩) (by decide))
          rw [NumDiv.md_in (by omega) (by omega), show ((day % 7 + 4) % 7 + 1) % 7 = ((day + 1) % 7 + 4) % 7 by omega] at HMD
          have hwb : 0 ≤ (day % 7 + 4) % 7 ∧ (day % 7 + 4) % 7 ≤ 6 := by omega
          generalize (day % 7 + 4) % 7 = k1 at HW2 HMD hwb
          generalize ((day + 1) % 7 + 4) % 7 = k2 at HW1 HMD
          have hw2 : IntKind.i64.wrap (k1 + 1) = k1 + 1 := IntWalk.i64_in _ (by omega)
          cases rd with
          | true =>
            obtain ⟨rfl, rfl⟩ : v' = v ∧ rd' = true := by have h := HFM.out rfl; simpa using h
            clear HFM
            go_wp2_with (fail)
            go_at_call 12
            refine (HW1.out _).mono ?_
            rintro e w' ⟨rfl, rfl⟩
            go_wp2_with (fail)
            go_at_call 12
            refine (HW2.out _).mono ?_
            rintro e w' ⟨rfl, rfl⟩
            go_wp2_with (fail)
            go_at_call 13
            refine (HMD.out _).mono ?_
            rintro e w' ⟨rfl, rfl⟩
            go_wp2
            go_ret
            exact ⟨rfl, B10.out⟩
          | false =>
            clear HFM
            go_wp2_with (fail)
            go_at_call 12
            refine (HW1.out _).mono ?_
            rintro e w' ⟨rfl, rfl⟩
            go_wp2_with (fail)
            go_at_call 12
            refine (HW2.out _).mono ?_
            rintro e w' ⟨rfl, rfl⟩
            go_wp2_with (fail)
            go_at_call 13
            refine (HMD.out _).mono ?_
            rintro e w' ⟨rfl, rfl⟩
            go_wp2
            go_ret
            exact ⟨rfl, B10.out⟩
        · have hx5 : 0 ≤ day := by omega
          have hx6 : ¬ day ≤ 47481 := by omega
          go_wp2_with (fail)
          go_at_call 11
          refine (Cur.draw_pd _ _ _ (Cur.bytes_below HBY.out B6.out) B6.out.size).mono ?_
          rintro e w7 ⟨s, hs, rfl, b7⟩
          have B7 := Lib.hid (Base.then_below B6.out b7)
          have HP7 := Lib.hid (Dt.impl_pdate s w7 (by omega) (Dt.mds_below HM.out B7.out) (Dt.names_below HN.out B7.out) (Fmt.tens_below HTN.out B7.out))
          have HIN := Lib.hid (fun h => Dt.pdate_in (l := s) h)
          unfold Dt.PdEnd at HP7
          generalize Dt.pdate s = pr at HP7 HIN
          obtain ⟨v, rd⟩ := pr
          dsimp only at HP7 HIN
          clear b7 hs B6
          go_wp2_with (fail)
          go_at_call 7
          refine HP7.out.mono ?_
          rintro e w8 ⟨rfl, b8⟩
          have B8 := Lib.hid (Base.then_below B7.out b8)
          have HF8 := Lib.hid (Dt.fm_any v w8 (Dt.mds_below HM.out B8.out) (Dt.names_below HN.out B8.out) (Fmt.tens_below HTN.out B8.out))
          unfold Dt.FmEnd at HF8
          clear b8 B7 HP7
          go_wp2_with (fail)
          go_at_call 6
          refine HF8.out.mono ?_
          rintro e w9 ⟨l', ⟨hll', hfm'⟩, rfl, b9⟩
          have B9 := Lib.hid (Base.then_below B8.out b9)
          have HP9 := Lib.hid (Dt.impl_pdate l' w9 (by omega) (Dt.mds_below HM.out B9.out) (Dt.names_below HN.out B9.out) (Fmt.tens_below HTN.out B9.out))
          unfold Dt.PdEnd at HP9
          have HFM : Hid (rd = true → Dt.pdate l' = (v, true)) := Lib.hid (fun h => by
            rcases hfm' with ⟨_, h2, _⟩ | ⟨h1, _⟩
            · exact h2
            · exact absurd (HIN.out h) h1)
          generalize Dt.pdate l' = pr' at HP9 HFM
          obtain ⟨v', rd'⟩ := pr'
          dsimp only at HP9
          clear b9 B8 HF8 hfm' hll' HIN
          go_wp2_with (fail)
          go_at_call 7
          refine HP9.out.mono ?_
          rintro e w10 ⟨rfl, b10⟩
          have B10 := Lib.hid (Base.then_below B9.out b10)
          clear b10 B9 HP9
          have hw1 : IntKind.i64.wrap (day + 1) = day + 1 := IntWalk.i64_in _ (by omega)
          have HW1 := Lib.hid (fun W => Dt.impl_week (day + 1) W (Go.WalkArith.wf_i64 ⟨by omega, by omega⟩))
          have HW2 := Lib.hid (fun W => Dt.impl_week day W (Go.WalkArith.wf_i64 ⟨by omega, by omega⟩))
          have HMD := Lib.hid (fun W => NumDiv.impl_mod ((day % 7 + 4) % 7 + 1) 7 W (Go.WalkArith.wf_i64 ⟨by omega, by omega⟩) (by decide))
          rw [NumDiv.md_in (by omega) (by omega), show ((day % 7 + 4) % 7 + 1) % 7 = ((day + 1) % 7 + 4) % 7 by omega] at HMD
          have hwb : 0 ≤ (day % 7 + 4) % 7 ∧ (day % 7 + 4) % 7 ≤ 6 := by omega
          generalize (day % 7 + 4) % 7 = k1 at HW2 HMD hwb
          generalize ((day + 1) % 7 + 4) % 7 = k2 at HW1 HMD
          have hw2 : IntKind.i64.wrap (k1 + 1) = k1 + 1 := IntWalk.i64_in _ (by omega)
          cases rd with
          | true =>
            obtain ⟨rfl, rfl⟩ : v' = v ∧ rd' = true := by have h := HFM.out rfl; simpa using h
            clear HFM
            go_wp2_with (fail)
            go_at_call 12
            refine (HW1.out _).mono ?_
            rintro e w' ⟨rfl, rfl⟩
            go_wp2_with (fail)
            go_at_call 12
            refine (HW2.out _).mono ?_
            rintro e w' ⟨rfl, rfl⟩
            go_wp2_with (fail)
            go_at_call 13
            refine (HMD.out _).mono ?_
            rintro e w' ⟨rfl, rfl⟩
            go_wp2
            go_ret
            exact ⟨rfl, B10.out⟩
          | false =>
            clear HFM
            go_wp2_with (fail)
            go_at_call 12
            refine (HW1.out _).mono ?_
            rintro e w' ⟨rfl, rfl⟩
            go_wp2_with (fail)
            go_at_call 12
            refine (HW2.out _).mono ?_
            rintro e w' ⟨rfl, rfl⟩
            go_wp2_with (fail)
            go_at_call 13
            refine (HMD.out _).mono ?_
            rintro e w' ⟨rfl, rfl⟩
            go_wp2
            go_ret
            exact ⟨rfl, B10.out⟩
end Go.Proofs.YtilephkbcikfbaaDoor.fnDates
