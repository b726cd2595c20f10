/-
  CONTRACT of the program's CivilOf, where its table of months reads as it is written: at every day from 1970 to 2099 it returns the date, at every other integer three zeros; nothing that was there before is changed.
-/
import Derived.Test.YtgclilgahalgaaaDoorDayI
namespace Go.Proofs.YtgclilgahalgaaaDoor.Dt
open Go Go.RowKit
set_option linter.unusedVariables false

/-- How CivilOf ends at a day that has a date. -/
def Civ (day : Int) (w : World) (e : Ending) (w' : World) : Prop := ∃ y m d : Int, CV day y m d ∧ e = .returned (.tuple #[.int .i64 y, .int .i64 m, .int .i64 d]) ∧ Below w.heap.size w w'
theorem year_more {day : Int} {n : Nat} (hd : day ≤ 47481) (h : yl (1970 + n) ≤ day - dby n) : n + 1 ≤ 129 := by
  rcases Nat.lt_or_ge n 129 with h' | h'
  · omega
  · have h1 := dby_mono (a := 130) (b := n + 1) (by omega)
    rw [dby_all] at h1
    have : dby (n + 1) = dby n + yl (1970 + n) := rfl
    omega
theorem month_more {y r : Int} {k : Nat} (hk : k ≤ 11) (hr : r < yl y) (h : dim y (k + 1) ≤ r - cum y k) : k + 1 ≤ 11 := by
  rcases Nat.lt_or_ge k 11 with h' | h'
  · omega
  · have : k = 11 := by omega
    subst this
    have h1 : cum y 12 = cum y 11 + dim y ((11 : Nat) + 1) := rfl
    rw [cum_all] at h1; omega

set_option maxHeartbeats 2000000 in
theorem impl_civ (day : Int) (w : World) (h0 : 0 ≤ day) (h1 : day ≤ 47481) (ht : Mds w) :
    Calls Tryd.prog 39 #[.int .i64 day] w (Civ day w) := by
  have g1 : ¬ day < 0 := by omega
  have g2 : ¬ 47481 < day := by omega
  have HT := Lib.hid ht
  clear ht
  go_enter Tryd.func39, Tryd.ntmps39
  go_wp2
  go_loopw [0, 5] (fun t yr wr => ∃ n : Nat, n ≤ 129 ∧ yr = .int .i64 (1970 + (n : Int)) ∧ 0 ≤ day - dby n ∧ t = .int .i64 (day - dby n) ∧ Below w.heap.size w wr) (fun t _ _ => (intOf t).toNat)
  case atStart => exact ⟨0, by omega, rfl, by simp [dby]; omega, by simp [dby], Below.refl _ _⟩
  case round =>
    obtain ⟨n, hn, rfl, hp, rfl, hb⟩ := hrel
    have hdb := dby_bd n
    obtain ⟨db1, db2⟩ := hdb
    have db3 : 0 ≤ dby n := by omega
    have db4 : dby n ≤ 50000 := by omega
    have hyl := yl_bd (1970 + n)
    obtain ⟨u1, u2⟩ := hyl
    have HS : Hid (dby (n + 1) = dby n + yl (1970 + n)) := Lib.hid rfl
    have cy := fun W => year_i (1970 + n) W (Go.WalkArith.wf_i64 ⟨by omega, by omega⟩)
    unfold Num at cy
    have HY := Lib.hid (fun h => year_more (n := n) h1 h)
    have HB := Lib.hid hb
    by_cases hge : yl (1970 + n) ≤ day - dby n
    · have hn1 := HY.out hge
      clear hb db1 db2
      generalize dby n = s at *
      generalize yl (1970 + (n : Int)) = u at *
      go_wp2_with (fail)
      go_at_call 38
      refine (cy _).mono ?_
      rintro e w2 ⟨rfl, hb2⟩
      go_wp2_with (fail)
      go_at_call 38
      refine (cy _).mono ?_
      rintro e w3 ⟨rfl, hb3⟩
      have HB3 := Lib.hid (Base.then_below (Base.then_below HB.out hb2) hb3)
      clear hb2 hb3
      go_wp2
      go_roundw
      case rel => exact ⟨n + 1, by omega, by go_num, by rw [HS.out]; omega, by rw [HS.out]; congr 1; omega, HB3.out⟩
      case measure => simp [intOf]; omega
    · have hlt : day - dby n < yl (1970 + n) := by omega
      have HC : Hid (∀ k : Nat, k ≤ 11 → dim (1970 + (n : Int)) (k + 1) ≤ day - dby n - cum (1970 + n) k → k + 1 ≤ 11) := Lib.hid (fun k hk h => month_more hk hlt h)
      have HV : Hid (∀ k : Nat, k ≤ 11 → 0 ≤ day - dby n - cum (1970 + n) k → day - dby n - cum (1970 + n) k < dim (1970 + n) (k + 1) → CV day (1970 + n) (k + 1) (day - dby n - cum (1970 + n) k + 1)) := Lib.hid (fun k hk a b => cv_mk hn hk a b)
      clear hb db1 db2 HY HS
      generalize dby n = s at *
      generalize yl (1970 + (n : Int)) = u at *
      go_wp2_with (fail)
      go_at_call 38
      refine (cy _).mono ?_
      rintro e w2 ⟨rfl, hb2⟩
      have HB2 := Lib.hid (Base.then_below HB.out hb2)
      clear hb2 HB cy
      go_wp2
      go_loopw [0, 6] (fun t mo wr => ∃ k : Nat, k ≤ 11 ∧ mo = .int .i64 ((k : Int) + 1) ∧ 0 ≤ day - s - cum (1970 + n) k ∧ t = .int .i64 (day - s - cum (1970 + n) k) ∧ Below w.heap.size w wr) (fun t _ _ => (intOf t).toNat)
      case atStart => exact ⟨0, by omega, rfl, by simp [cum]; omega, by simp [cum], HB2.out⟩
      case round =>
        clear HB2
        obtain ⟨k, hk, rfl, hp2, rfl, hb⟩ := hrel
        have hcb := cum_bd (1970 + n) k (by omega)
        obtain ⟨cb1, cb2⟩ := hcb
        have cb3 : 0 ≤ cum (1970 + n) k := by omega
        have cb4 : cum (1970 + n) k ≤ 372 := by omega
        have hdm := dim_bd (1970 + n) (k + 1) (by omega) (by omega)
        obtain ⟨v1, v2⟩ := hdm
        have HS : Hid (cum (1970 + n) (k + 1) = cum (1970 + n) k + dim (1970 + n) (k + 1)) := Lib.hid rfl
        have hmd := mds_below HT.out hb
        have cm := fun W h => month_i (1970 + n) k W (Go.WalkArith.wf_i64 ⟨by omega, by omega⟩) (by omega) h
        unfold Num at cm
        have HB := Lib.hid hb
        have HM := Lib.hid hmd
        have HK := Lib.hid (HC.out k hk)
        have HW := Lib.hid (HV.out k hk)
        clear hb hmd cb1 cb2
        generalize cum (1970 + (n : Int)) k = c at *
        generalize dim (1970 + (n : Int)) ((k : Int) + 1) = v at *
        by_cases hge2 : v ≤ day - s - c
        · have hk1 := HK.out hge2
          go_wp2_with (fail)
          go_at_call 37
          refine (cm _ HM.out).mono ?_
          rintro e w3 ⟨rfl, hb3⟩
          have HM3 := Lib.hid (mds_below HM.out hb3)
          have HB3 := Lib.hid (Base.then_below HB.out hb3)
          clear hb3
          go_wp2_with (fail)
          go_at_call 37
          refine (cm _ HM3.out).mono ?_
          rintro e w4 ⟨rfl, hb4⟩
          have HB4 := Lib.hid (Base.then_below HB3.out hb4)
          clear hb4
          go_wp2
          go_roundw
          case rel => exact ⟨k + 1, hk1, by go_num, by rw [HS.out]; omega, by rw [HS.out]; congr 1; omega, HB4.out⟩
          case measure => simp [intOf]; omega
        · have hlt2 : day - s - c < v := by omega
          go_wp2_with (fail)
          go_at_call 37
          refine (cm _ HM.out).mono ?_
          rintro e w3 ⟨rfl, hb3⟩
          have HB3 := Lib.hid (Base.then_below HB.out hb3)
          clear hb3
          go_wp2
          go_ret3
          exact ⟨_, _, _, HW.out hp2 hlt2, rfl, HB3.out⟩

theorem impl_civ_out (day : Int) (w : World) (h : day < 0 ∨ 47481 < day) :
    Calls Tryd.prog 39 #[.int .i64 day] w fun e w' => e = .returned (.tuple #[.int .i64 0, .int .i64 0, .int .i64 0]) ∧ Below w.heap.size w w' := by
  by_cases h1 : day < 0
  · clear h
    go_enter Tryd.func39, Tryd.ntmps39
    go_wp2
    go_ret3
    exact ⟨rfl, Below.refl _ _⟩
  · have h2 : 47481 < day := by omega
    clear h
    go_enter Tryd.func39, Tryd.ntmps39
    go_wp2
    go_ret3
    exact ⟨rfl, Below.refl _ _⟩
end Go.Proofs.YtgclilgahalgaaaDoor.Dt
