/-
  CONTRACTS AND PLAIN FACTS, several texts in one; each says in its own words what it proves.
-/
import Derived.Test.YtjeihicjfgimdaaGreatDoorPartO
import Derived.Test.YtjeihicjfgimdaaGreatDoorPartN
import Derived.Test.YtjeihicjfgimdaaGreatDoorPartM
import Derived.Test.YtjeihicjfgimdaaGreatDoorPartA
import Derived.LoopTactic
set_option linter.unusedSimpArgs false
set_option linter.unusedVariables false

/-
  CONTRACT of the program's CivilOf, where its table of months reads as it is written: at every day from 1970 to 2099 it returns the date, at every other integer three zeros; nothing that was there before is changed.
-/
namespace Go.Proofs.YtjeihicjfgimdaaGreatDoor.Dt
open Go Go.RowKit
set_option linter.unusedVariables false
set_option maxRecDepth 1000000

/-- How CivilOf ends at a day that has a date. -/
def Civ (day : Int) (w : World) (e : Ending) (w' : World) : Prop := ∃ y m d : Int, CV day y m d ∧ e = .returned (.tuple #[.int .i64 y, .int .i64 m, .int .i64 d]) ∧ Below w.heap.size w w'
theorem year_more {day : Int} {n : Nat} (hd : day ≤ 47481) (h : yl (1970 + n) ≤ day - dby n) : n + 1 ≤ 129 := by
  rcases Nat.lt_or_ge n 129 with h' | h'
  · omega
  · have h1 := dby_mono (a := 130) (b := n + 1) (by omega)
    rw [dby_all] at h1
    have : dby (n + 1) = dby n + yl (1970 + n) := rfl
    omega
theorem month_more {y r : Int} {k : Nat} (hk : k ≤ 11) (hr : r < yl y) (h : dim y (k + 1) ≤ r - cum y k) : k + 1 ≤ 11 := by
  rcases Nat.lt_or_ge k 11 with h' | h'
  · omega
  · have : k = 11 := by omega
    subst this
    have h1 : cum y 12 = cum y 11 + dim y ((11 : Nat) + 1) := rfl
    rw [cum_all] at h1; omega

set_option maxHeartbeats 2000000 in
theorem impl_civ (day : Int) (w : World) (h0 : 0 ≤ day) (h1 : day ≤ 47481) (ht : Mds w) :
    Calls Tryz.prog 226 #[.int .i64 day] w (Civ day w) := by
  have g1 : ¬ day < 0 := by omega
  have g2 : ¬ 47481 < day := by omega
  have HT := Lib.hid ht
  clear ht
  go_enter Tryz.func226, Tryz.ntmps226
  go_wp2
  go_loopw [0, 5] (fun t yr wr => ∃ n : Nat, n ≤ 129 ∧ yr = .int .i64 (1970 + (n : Int)) ∧ 0 ≤ day - dby n ∧ t = .int .i64 (day - dby n) ∧ Below w.heap.size w wr) (fun t _ _ => (intOf t).toNat)
  case atStart => exact ⟨0, by omega, rfl, by simp [dby]; omega, by simp [dby], Below.refl _ _⟩
  case round =>
    obtain ⟨n, hn, rfl, hp, rfl, hb⟩ := hrel
    have hdb := dby_bd n
    obtain ⟨db1, db2⟩ := hdb
    have db3 : 0 ≤ dby n := by omega
    have db4 : dby n ≤ 50000 := by omega
    have hyl := yl_bd (1970 + n)
    obtain ⟨u1, u2⟩ := hyl
    have HS : Hid (dby (n + 1) = dby n + yl (1970 + n)) := Lib.hid rfl
    have cy := fun W => year_i (1970 + n) W (Go.WalkArith.wf_i64 ⟨by omega, by omega⟩)
    unfold Num at cy
    have HY := Lib.hid (fun h => year_more (n := n) h1 h)
    have HB := Lib.hid hb
    by_cases hge : yl (1970 + n) ≤ day - dby n
    · have hn1 := HY.out hge
      clear hb db1 db2
      generalize dby n = s at *
      generalize yl (1970 + (n : Int)) = u at *
      go_wp2_with (fail)
      go_at_call 225
      refine (cy _).mono ?_
      rintro e w2 ⟨rfl, hb2⟩
      go_wp2_with (fail)
      go_at_call 225
      refine (cy _).mono ?_
      rintro e w3 ⟨rfl, hb3⟩
      have HB3 := Lib.hid (Base.then_below (Base.then_below HB.out hb2) hb3)
      clear hb2 hb3
      go_wp2
      go_roundw
      case rel => exact ⟨n + 1, by omega, by go_num, by rw [HS.out]; omega, by rw [HS.out]; congr 1; omega, HB3.out⟩
      case measure => simp [intOf]; omega
    · have hlt : day - dby n < yl (1970 + n) := by omega
      have HC : Hid (∀ k : Nat, k ≤ 11 → dim (1970 + (n : Int)) (k + 1) ≤ day - dby n - cum (1970 + n) k → k + 1 ≤ 11) := Lib.hid (fun k hk h => month_more hk hlt h)
      have HV : Hid (∀ k : Nat, k ≤ 11 → 0 ≤ day - dby n - cum (1970 + n) k → day - dby n - cum (1970 + n) k < dim (1970 + n) (k + 1) → CV day (1970 + n) (k + 1) (day - dby n - cum (1970 + n) k + 1)) := Lib.hid (fun k hk a b => cv_mk hn hk a b)
      clear hb db1 db2 HY HS
      generalize dby n = s at *
      generalize yl (1970 + (n : Int)) = u at *
      go_wp2_with (fail)
      go_at_call 225
      refine (cy _).mono ?_
      rintro e w2 ⟨rfl, hb2⟩
      have HB2 := Lib.hid (Base.then_below HB.out hb2)
      clear hb2 HB cy
      go_wp2
      go_loopw [0, 6] (fun t mo wr => ∃ k : Nat, k ≤ 11 ∧ mo = .int .i64 ((k : Int) + 1) ∧ 0 ≤ day - s - cum (1970 + n) k ∧ t = .int .i64 (day - s - cum (1970 + n) k) ∧ Below w.heap.size w wr) (fun t _ _ => (intOf t).toNat)
      case atStart => exact ⟨0, by omega, rfl, by simp [cum]; omega, by simp [cum], HB2.out⟩
      case round =>
        clear HB2
        obtain ⟨k, hk, rfl, hp2, rfl, hb⟩ := hrel
        have hcb := cum_bd (1970 + n) k (by omega)
        obtain ⟨cb1, cb2⟩ := hcb
        have cb3 : 0 ≤ cum (1970 + n) k := by omega
        have cb4 : cum (1970 + n) k ≤ 372 := by omega
        have hdm := dim_bd (1970 + n) (k + 1) (by omega) (by omega)
        obtain ⟨v1, v2⟩ := hdm
        have HS : Hid (cum (1970 + n) (k + 1) = cum (1970 + n) k + dim (1970 + n) (k + 1)) := Lib.hid rfl
        have hmd := mds_below HT.out hb
        have cm := fun W h => month_i (1970 + n) k W (Go.WalkArith.wf_i64 ⟨by omega, by omega⟩) (by omega) h
        unfold Num at cm
        have HB := Lib.hid hb
        have HM := Lib.hid hmd
        have HK := Lib.hid (HC.out k hk)
        have HW := Lib.hid (HV.out k hk)
        clear hb hmd cb1 cb2
        generalize cum (1970 + (n : Int)) k = c at *
        generalize dim (1970 + (n : Int)) ((k : Int) + 1) = v at *
        by_cases hge2 : v ≤ day - s - c
        · have hk1 := HK.out hge2
          go_wp2_with (fail)
          go_at_call 224
          refine (cm _ HM.out).mono ?_
          rintro e w3 ⟨rfl, hb3⟩
          have HM3 := Lib.hid (mds_below HM.out hb3)
          have HB3 := Lib.hid (Base.then_below HB.out hb3)
          clear hb3
          go_wp2_with (fail)
          go_at_call 224
          refine (cm _ HM3.out).mono ?_
          rintro e w4 ⟨rfl, hb4⟩
          have HB4 := Lib.hid (Base.then_below HB3.out hb4)
          clear hb4
          go_wp2
          go_roundw
          case rel => exact ⟨k + 1, hk1, by go_num, by rw [HS.out]; omega, by rw [HS.out]; congr 1; omega, HB4.out⟩
          case measure => simp [intOf]; omega
        · have hlt2 : day - s - c < v := by omega
          go_wp2_with (fail)
          go_at_call 224
          refine (cm _ HM.out).mono ?_
          rintro e w3 ⟨rfl, hb3⟩
          have HB3 := Lib.hid (Base.then_below HB.out hb3)
          clear hb3
          go_wp2
          go_ret3
          exact ⟨_, _, _, HW.out hp2 hlt2, rfl, HB3.out⟩

theorem impl_civ_out (day : Int) (w : World) (h : day < 0 ∨ 47481 < day) :
    Calls Tryz.prog 226 #[.int .i64 day] w fun e w' => e = .returned (.tuple #[.int .i64 0, .int .i64 0, .int .i64 0]) ∧ Below w.heap.size w w' := by
  by_cases h1 : day < 0
  · clear h
    go_enter Tryz.func226, Tryz.ntmps226
    go_wp2
    go_ret3
    exact ⟨rfl, Below.refl _ _⟩
  · have h2 : 47481 < day := by omega
    clear h
    go_enter Tryz.func226, Tryz.ntmps226
    go_wp2
    go_ret3
    exact ⟨rfl, Below.refl _ _⟩
end Go.Proofs.YtjeihicjfgimdaaGreatDoor.Dt

/-
  CONTRACTS of the model's l3Long, DaysOf and CivilOf: each returns what the calendar says; nothing that was there before is changed.
-/
namespace Go.Proofs.YtjeihicjfgimdaaGreatDoor.Dt
open Go Go.RowKit
set_option linter.unusedVariables false
set_option maxRecDepth 1000000

theorem mlit (w : World) {k : Nat} (hk : k < 12) : (w.alloc (.cells #[.int .i64 31, .int .i64 28, .int .i64 31, .int .i64 30, .int .i64 31, .int .i64 30, .int .i64 31, .int .i64 31, .int .i64 30, .int .i64 31, .int .i64 30, .int .i64 31] 3)).cell? ⟨w.heap.size, k, none⟩ = some (.int .i64 (mdt k)) := by
  rw [World.cell?_alloc_new]
  have : ∀ k : Fin 12, (#[Value.int .i64 31, .int .i64 28, .int .i64 31, .int .i64 30, .int .i64 31, .int .i64 30, .int .i64 31, .int .i64 31, .int .i64 30, .int .i64 31, .int .i64 30, .int .i64 31] : Array Value)[k.1]? = some (.int .i64 (mdt k.1)) := by
    intro k
    match k with
    | ⟨0, _⟩ => rfl
    | ⟨1, _⟩ => rfl
    | ⟨2, _⟩ => rfl
    | ⟨3, _⟩ => rfl
    | ⟨4, _⟩ => rfl
    | ⟨5, _⟩ => rfl
    | ⟨6, _⟩ => rfl
    | ⟨7, _⟩ => rfl
    | ⟨8, _⟩ => rfl
    | ⟨9, _⟩ => rfl
    | ⟨10, _⟩ => rfl
    | ⟨11, _⟩ => rfl
  exact this ⟨k, hk⟩

set_option maxHeartbeats 1000000 in
theorem month_s (y : Int) (k : Nat) (w : World) (wy : (Lit.int .i64 y).wf = true) (hk : k ≤ 11) :
    Calls Tryz.prog 132 #[.int .i64 y, .int .i64 ((k : Int) + 1)] w (Num (dim y (k + 1)) w) := by
  have c1 := spec_leap y w wy
  have hc := mlit w (k := k) (by omega)
  have hd : dim y (k + 1) = if k = 1 ∧ lpB y = true then 29 else mdt k := by
    unfold dim
    rw [show ((k : Int) + 1 - 1).toNat = k by omega]
    by_cases h : k = 1
    · simp [h]
    · rw [if_neg (by omega), if_neg (by simp [h])]
  rw [hd]
  clear hd
  generalize mdt k = v at *
  by_cases h2 : k = 1
  · have k2 : ((k : Int) + 1 == 2) = true := b_yes (by omega)
    have H2 := Lib.hid h2
    cases hl : lpB y with
    | true =>
      rw [if_pos ⟨h2, rfl⟩]
      rw [hl] at c1
      clear hl h2
      go_enter Tryz.func132, Tryz.ntmps132
      go_wp2_with (go_at_call 133; refine c1.mono ?_; rintro e w' ⟨rfl, rfl⟩)
      go_ret
      exact ⟨rfl, Below.refl _ _⟩
    | false =>
      rw [if_neg (by simp)]
      rw [hl] at c1
      clear hl h2
      go_enter Tryz.func132, Tryz.ntmps132
      go_wp2_with (go_at_call 133; refine c1.mono ?_; rintro e w' ⟨rfl, rfl⟩)
      go_ret
      exact ⟨rfl, (Below.refl _ _).alloc (Nat.le_refl _) _⟩
  · have k2 : ((k : Int) + 1 == 2) = false := b_no (by omega)
    rw [if_neg (by simp [h2])]
    clear h2 c1
    go_enter Tryz.func132, Tryz.ntmps132
    go_wp2
    go_ret
    exact ⟨rfl, (Below.refl _ _).alloc (Nat.le_refl _) _⟩

set_option maxHeartbeats 2000000 in
theorem days_in_s (N K : Nat) (d : Int) (w : World) (hN : N ≤ 129) (hK : K ≤ 11) (hd1 : 1 ≤ d) (hd2 : d ≤ dim (1970 + N) (K + 1)) :
    Calls Tryz.prog 101 #[.int .i64 (1970 + (N : Int)), .int .i64 ((K : Int) + 1), .int .i64 d] w (Num (d - 1 + dby N + cum (1970 + N) K) w) := by
  have cm := month_s (1970 + N) K w (Go.WalkArith.wf_i64 ⟨by omega, by omega⟩) hK
  have hd3 : d ≤ 31 := by have := dim_bd (1970 + N) (K + 1) (by omega) (by omega); omega
  have HD := Lib.hid hd2
  generalize hdim : dim (1970 + (N : Int)) ((K : Int) + 1) = dm at cm HD
  clear hdim hd2
  unfold Num at cm
  go_enter Tryz.func101, Tryz.ntmps101
  go_wp2_with (fail)
  go_at_call 64
  refine (NumDiv.in_yes _ _ _ _ (by omega) (by omega)).mono ?_
  rintro e w' ⟨rfl, rfl⟩
  go_wp2_with (fail)
  go_at_call 64
  refine (NumDiv.in_yes _ _ _ _ (by omega) (by omega)).mono ?_
  rintro e w' ⟨rfl, rfl⟩
  go_wp2_with (fail)
  go_at_call 132
  refine cm.mono ?_
  rintro e w1 ⟨rfl, hb1⟩
  have HB := Lib.hid hb1
  clear hb1 cm
  go_wp2_with (fail)
  go_at_call 64
  refine (NumDiv.in_yes _ _ _ _ hd1 HD.out).mono ?_
  rintro e w' ⟨rfl, rfl⟩
  go_wp2
  go_loopw [7, 8] (fun s yr wr => ∃ n : Nat, n ≤ N ∧ yr = .int .i64 (1970 + (n : Int)) ∧ s = .int .i64 (d - 1 + dby n) ∧ Below w.heap.size w wr) (fun _ yr _ => (1970 + N) - (intOf yr).toNat)
  case atStart => exact ⟨0, Nat.zero_le _, rfl, by simp [dby], HB.out⟩
  case round =>
    clear HB
    obtain ⟨n, hn, rfl, rfl, hb⟩ := hrel
    have hdb := dby_bd n
    obtain ⟨db1, db2⟩ := hdb
    have db3 : 0 ≤ dby n := by omega
    have db4 : dby n ≤ 50000 := by omega
    by_cases hlt : n < N
    · have HS : Hid (dby (n + 1) = dby n + yl (1970 + n)) := Lib.hid rfl
      have cy := spec_leap (1970 + n) wr (Go.WalkArith.wf_i64 ⟨by omega, by omega⟩)
      have HB := Lib.hid hb
      clear hb db1 db2
      generalize dby n = s at *
      unfold yl at HS
      cases hl : lpB (1970 + (n : Int))
      all_goals
        rw [hl] at cy HS
        simp only [Bool.false_eq_true, if_false, if_true] at HS
        clear hl
        go_wp2_with (go_at_call 133; refine cy.mono ?_; rintro e w2 ⟨rfl, rfl⟩)
        go_roundw
        case rel => exact ⟨n + 1, by omega, by go_num, by rw [HS.out]; congr 1; omega, HB.out⟩
        case measure => simp [intOf]; omega
    · obtain rfl : n = N := by omega
      have HB := Lib.hid hb
      clear hb db1 db2
      generalize dby n = s at *
      go_wp2
      go_loopw [7, 9] (fun t mo wr => ∃ k : Nat, k ≤ K ∧ mo = .int .i64 ((k : Int) + 1) ∧ t = .int .i64 (d - 1 + s + cum (1970 + n) k) ∧ Below w.heap.size w wr) (fun _ mo _ => (K + 1) - (intOf mo).toNat)
      case atStart => exact ⟨0, Nat.zero_le _, rfl, by simp [cum], HB.out⟩
      case round =>
        clear HB
        obtain ⟨k, hk, rfl, rfl, hb⟩ := hrel
        have hcb := cum_bd (1970 + n) k (by omega)
        obtain ⟨cb1, cb2⟩ := hcb
        have cb3 : 0 ≤ cum (1970 + n) k := by omega
        have cb4 : cum (1970 + n) k ≤ 372 := by omega
        by_cases hlt2 : k < K
        · have hdm := dim_bd (1970 + n) (k + 1) (by omega) (by omega)
          obtain ⟨v1, v2⟩ := hdm
          have HS : Hid (cum (1970 + n) (k + 1) = cum (1970 + n) k + dim (1970 + n) (k + 1)) := Lib.hid rfl
          have cm := month_s (1970 + n) k wr (Go.WalkArith.wf_i64 ⟨by omega, by omega⟩) (by omega)
          unfold Num at cm
          have HB := Lib.hid hb
          clear hb cb1 cb2
          generalize cum (1970 + (n : Int)) k = c at *
          generalize dim (1970 + (n : Int)) ((k : Int) + 1) = v at *
          go_wp2_with (go_at_call 132; refine cm.mono ?_; rintro e w2 ⟨rfl, hb2⟩)
          go_roundw
          case rel => exact ⟨k + 1, by omega, by go_num, by rw [HS.out]; congr 1; omega, Base.then_below HB.out hb2⟩
          case measure => simp [intOf]; omega
        · obtain rfl : k = K := by omega
          have HB := Lib.hid hb
          clear hb cb1 cb2
          generalize cum (1970 + (n : Int)) k = c at *
          go_wp2
          go_ret
          exact num_ret (by omega) HB.out

set_option maxHeartbeats 2000000 in
theorem spec_days (y m d : Int) (w : World) (wy : (Lit.int .i64 y).wf = true) :
    Calls Tryz.prog 101 #[.int .i64 y, .int .i64 m, .int .i64 d] w (Num (dof y m d) w) := by
  by_cases h1 : y < 1970 ∨ 2099 < y
  · rw [dof_out (by omega)]
    have H1 := Lib.hid h1
    clear h1
    go_enter Tryz.func101, Tryz.ntmps101
    go_wp2_with (go_at_call 64; refine (NumDiv.in_no _ _ _ _ H1.out).mono ?_; rintro e w' ⟨rfl, rfl⟩)
    go_ret
    exact ⟨rfl, Below.refl _ _⟩
  have h1a : 1970 ≤ y := by omega
  have h1b : y ≤ 2099 := by omega
  clear h1
  by_cases h3 : m < 1 ∨ 12 < m
  · rw [dof_out (by omega)]
    have H3 := Lib.hid h3
    clear h3
    go_enter Tryz.func101, Tryz.ntmps101
    go_wp2_with (fail)
    go_at_call 64
    refine (NumDiv.in_yes _ _ _ _ h1a h1b).mono ?_
    rintro e w' ⟨rfl, rfl⟩
    go_wp2_with (fail)
    go_at_call 64
    refine (NumDiv.in_no _ _ _ _ H3.out).mono ?_
    rintro e w' ⟨rfl, rfl⟩
    go_wp2
    go_ret
    exact ⟨rfl, Below.refl _ _⟩
  obtain ⟨N, rfl⟩ : ∃ N : Nat, y = 1970 + (N : Int) := ⟨(y - 1970).toNat, by omega⟩
  obtain ⟨K, rfl⟩ : ∃ K : Nat, m = (K : Int) + 1 := ⟨(m - 1).toNat, by omega⟩
  by_cases h6 : d < 1 ∨ dim (1970 + N) (K + 1) < d
  · rw [dof_out (by omega)]
    have cm := month_s (1970 + N) K w (Go.WalkArith.wf_i64 ⟨by omega, by omega⟩) (by omega)
    unfold Num at cm
    have H6 := Lib.hid h6
    have H3 := Lib.hid h3
    generalize dim (1970 + (N : Int)) ((K : Int) + 1) = v at *
    clear wy h6 h3
    go_enter Tryz.func101, Tryz.ntmps101
    go_wp2_with (fail)
    go_at_call 64
    refine (NumDiv.in_yes _ _ _ _ (by omega) (by omega)).mono ?_
    rintro e w' ⟨rfl, rfl⟩
    go_wp2_with (fail)
    go_at_call 64
    refine (NumDiv.in_yes _ _ _ _ (by omega) (by have := H3.out; omega)).mono ?_
    rintro e w' ⟨rfl, rfl⟩
    go_wp2_with (fail)
    go_at_call 132
    refine cm.mono ?_
    rintro e w1 ⟨rfl, hb1⟩
    have HB := Lib.hid hb1
    clear hb1 cm
    go_wp2_with (fail)
    go_at_call 64
    refine (NumDiv.in_no _ _ _ _ H6.out).mono ?_
    rintro e w' ⟨rfl, rfl⟩
    go_wp2
    go_ret
    exact ⟨rfl, HB.out⟩
  · have e : dof (1970 + N) (K + 1) d = d - 1 + dby N + cum (1970 + N) K := by
      unfold dof
      rw [if_pos (by omega), show (1970 + (N : Int) - 1970).toNat = N by omega, show ((K : Int) + 1 - 1).toNat = K by omega]
    rw [e]
    exact days_in_s N K d w (by omega) (by omega) (by omega) (by omega)

set_option maxHeartbeats 2000000 in
theorem spec_civ (day : Int) (w : World) (h0 : 0 ≤ day) (h1 : day ≤ 47481) :
    Calls Tryz.prog 134 #[.int .i64 day] w (Civ day w) := by
  go_enter Tryz.func134, Tryz.ntmps134
  go_wp2_with (fail)
  go_at_call 64
  refine (NumDiv.in_yes _ _ _ _ h0 h1).mono ?_
  rintro e w' ⟨rfl, rfl⟩
  go_wp2
  go_loopw [0, 5] (fun t yr wr => ∃ n : Nat, n ≤ 129 ∧ yr = .int .i64 (1970 + (n : Int)) ∧ 0 ≤ day - dby n ∧ t = .int .i64 (day - dby n) ∧ Below w.heap.size w wr) (fun t _ _ => (intOf t).toNat)
  case atStart => exact ⟨0, by omega, rfl, by simp [dby]; omega, by simp [dby], Below.refl _ _⟩
  case round =>
    obtain ⟨n, hn, rfl, hp, rfl, hb⟩ := hrel
    have hdb := dby_bd n
    obtain ⟨db1, db2⟩ := hdb
    have db3 : 0 ≤ dby n := by omega
    have db4 : dby n ≤ 50000 := by omega
    have HS : Hid (dby (n + 1) = dby n + yl (1970 + n)) := Lib.hid rfl
    have cy := spec_leap (1970 + n) wr (Go.WalkArith.wf_i64 ⟨by omega, by omega⟩)
    have HY := Lib.hid (fun h => year_more (n := n) h1 h)
    have HC : Hid (¬ yl (1970 + n) ≤ day - dby n → ∀ k : Nat, k ≤ 11 → dim (1970 + (n : Int)) (k + 1) ≤ day - dby n - cum (1970 + n) k → k + 1 ≤ 11) := Lib.hid (fun hge k hk h => month_more hk (show day - dby n < yl (1970 + n) by omega) h)
    have HV : Hid (∀ k : Nat, k ≤ 11 → 0 ≤ day - dby n - cum (1970 + n) k → day - dby n - cum (1970 + n) k < dim (1970 + n) (k + 1) → CV day (1970 + n) (k + 1) (day - dby n - cum (1970 + n) k + 1)) := Lib.hid (fun k hk a b => cv_mk hn hk a b)
    have HB := Lib.hid hb
    clear hb db1 db2
    generalize dby n = s at *
    unfold yl at HS HY HC
    cases hl : lpB (1970 + (n : Int))
    all_goals
      rw [hl] at cy HS HY HC
      simp only [Bool.false_eq_true, if_false, if_true] at HS HY HC
      clear hl
    · by_cases hge : 365 ≤ day - s
      · have hn1 := HY.out hge
        go_wp2_with (go_at_call 133; refine cy.mono ?_; rintro e w2 ⟨rfl, rfl⟩)
        go_roundw
        case rel => exact ⟨n + 1, by omega, by go_num, by rw [HS.out]; omega, by rw [HS.out]; congr 1; omega, HB.out⟩
        case measure => simp [intOf]; omega
      · have HC2 := Lib.hid (HC.out hge)
        clear HC
        have hlt : day - s < 365 := by omega
        clear hge HY HS
        go_wp2_with (go_at_call 133; refine cy.mono ?_; rintro e w2 ⟨rfl, rfl⟩)
        go_loopw [0, 7] (fun t mo wr => ∃ k : Nat, k ≤ 11 ∧ mo = .int .i64 ((k : Int) + 1) ∧ 0 ≤ day - s - cum (1970 + n) k ∧ t = .int .i64 (day - s - cum (1970 + n) k) ∧ Below w.heap.size w wr) (fun t _ _ => (intOf t).toNat)
        case atStart => exact ⟨0, by omega, rfl, by simp [cum]; omega, by simp [cum], HB.out⟩
        case round =>
          clear HB
          obtain ⟨k, hk, rfl, hp2, rfl, hb⟩ := hrel
          have hcb := cum_bd (1970 + n) k (by omega)
          obtain ⟨cb1, cb2⟩ := hcb
          have cb3 : 0 ≤ cum (1970 + n) k := by omega
          have cb4 : cum (1970 + n) k ≤ 372 := by omega
          have hdm := dim_bd (1970 + n) (k + 1) (by omega) (by omega)
          obtain ⟨v1, v2⟩ := hdm
          have HS : Hid (cum (1970 + n) (k + 1) = cum (1970 + n) k + dim (1970 + n) (k + 1)) := Lib.hid rfl
          have cm := fun W => month_s (1970 + n) k W (Go.WalkArith.wf_i64 ⟨by omega, by omega⟩) (by omega)
          unfold Num at cm
          have HB := Lib.hid hb
          have HK := Lib.hid (HC2.out k hk)
          have HW := Lib.hid (HV.out k hk)
          clear hb cb1 cb2
          generalize cum (1970 + (n : Int)) k = c at *
          generalize dim (1970 + (n : Int)) ((k : Int) + 1) = v at *
          by_cases hge2 : v ≤ day - s - c
          · have hk1 := HK.out hge2
            go_wp2_with (fail)
            go_at_call 132
            refine (cm _).mono ?_
            rintro e w3 ⟨rfl, hb3⟩
            have HB3 := Lib.hid (Base.then_below HB.out hb3)
            clear hb3
            go_wp2_with (fail)
            go_at_call 132
            refine (cm _).mono ?_
            rintro e w4 ⟨rfl, hb4⟩
            have HB4 := Lib.hid (Base.then_below HB3.out hb4)
            clear hb4
            go_wp2
            go_roundw
            case rel => exact ⟨k + 1, hk1, by go_num, by rw [HS.out]; omega, by rw [HS.out]; congr 1; omega, HB4.out⟩
            case measure => simp [intOf]; omega
          · have hlt2 : day - s - c < v := by omega
            go_wp2_with (fail)
            go_at_call 132
            refine (cm _).mono ?_
            rintro e w3 ⟨rfl, hb3⟩
            have HB3 := Lib.hid (Base.then_below HB.out hb3)
            clear hb3
            go_wp2
            go_ret3
            exact ⟨_, _, _, HW.out hp2 hlt2, rfl, HB3.out⟩
    · by_cases hge : 366 ≤ day - s
      · have hn1 := HY.out hge
        go_wp2_with (go_at_call 133; refine cy.mono ?_; rintro e w2 ⟨rfl, rfl⟩)
        go_roundw
        case rel => exact ⟨n + 1, by omega, by go_num, by rw [HS.out]; omega, by rw [HS.out]; congr 1; omega, HB.out⟩
        case measure => simp [intOf]; omega
      · have HC2 := Lib.hid (HC.out hge)
        clear HC
        have hlt : day - s < 366 := by omega
        clear hge HY HS
        go_wp2_with (go_at_call 133; refine cy.mono ?_; rintro e w2 ⟨rfl, rfl⟩)
        go_loopw [0, 7] (fun t mo wr => ∃ k : Nat, k ≤ 11 ∧ mo = .int .i64 ((k : Int) + 1) ∧ 0 ≤ day - s - cum (1970 + n) k ∧ t = .int .i64 (day - s - cum (1970 + n) k) ∧ Below w.heap.size w wr) (fun t _ _ => (intOf t).toNat)
        case atStart => exact ⟨0, by omega, rfl, by simp [cum]; omega, by simp [cum], HB.out⟩
        case round =>
          clear HB
          obtain ⟨k, hk, rfl, hp2, rfl, hb⟩ := hrel
          have hcb := cum_bd (1970 + n) k (by omega)
          obtain ⟨cb1, cb2⟩ := hcb
          have cb3 : 0 ≤ cum (1970 + n) k := by omega
          have cb4 : cum (1970 + n) k ≤ 372 := by omega
          have hdm := dim_bd (1970 + n) (k + 1) (by omega) (by omega)
          obtain ⟨v1, v2⟩ := hdm
          have HS : Hid (cum (1970 + n) (k + 1) = cum (1970 + n) k + dim (1970 + n) (k + 1)) := Lib.hid rfl
          have cm := fun W => month_s (1970 + n) k W (Go.WalkArith.wf_i64 ⟨by omega, by omega⟩) (by omega)
          unfold Num at cm
          have HB := Lib.hid hb
          have HK := Lib.hid (HC2.out k hk)
          have HW := Lib.hid (HV.out k hk)
          clear hb cb1 cb2
          generalize cum (1970 + (n : Int)) k = c at *
          generalize dim (1970 + (n : Int)) ((k : Int) + 1) = v at *
          by_cases hge2 : v ≤ day - s - c
          · have hk1 := HK.out hge2
            go_wp2_with (fail)
            go_at_call 132
            refine (cm _).mono ?_
            rintro e w3 ⟨rfl, hb3⟩
            have HB3 := Lib.hid (Base.then_below HB.out hb3)
            clear hb3
            go_wp2_with (fail)
            go_at_call 132
            refine (cm _).mono ?_
            rintro e w4 ⟨rfl, hb4⟩
            have HB4 := Lib.hid (Base.then_below HB3.out hb4)
            clear hb4
            go_wp2
            go_roundw
            case rel => exact ⟨k + 1, hk1, by go_num, by rw [HS.out]; omega, by rw [HS.out]; congr 1; omega, HB4.out⟩
            case measure => simp [intOf]; omega
          · have hlt2 : day - s - c < v := by omega
            go_wp2_with (fail)
            go_at_call 132
            refine (cm _).mono ?_
            rintro e w3 ⟨rfl, hb3⟩
            have HB3 := Lib.hid (Base.then_below HB.out hb3)
            clear hb3
            go_wp2
            go_ret3
            exact ⟨_, _, _, HW.out hp2 hlt2, rfl, HB3.out⟩

theorem spec_civ_out (day : Int) (w : World) (h : day < 0 ∨ 47481 < day) :
    Calls Tryz.prog 134 #[.int .i64 day] w fun e w' => e = .returned (.tuple #[.int .i64 0, .int .i64 0, .int .i64 0]) ∧ Below w.heap.size w w' := by
  have H := Lib.hid h
  clear h
  go_enter Tryz.func134, Tryz.ntmps134
  go_wp2_with (go_at_call 64; refine (NumDiv.in_no _ _ _ _ H.out).mono ?_; rintro e w' ⟨rfl, rfl⟩)
  go_ret3
  exact ⟨rfl, Below.refl _ _⟩
end Go.Proofs.YtjeihicjfgimdaaGreatDoor.Dt

/-
  CONTRACT of the model's WeekdayOf: at every integer of 64 bits it returns the weekday; the world stays as it was.
-/
namespace Go.Proofs.YtjeihicjfgimdaaGreatDoor.Dt
open Go Go.RowKit
set_option linter.unusedVariables false
set_option maxRecDepth 1000000

theorem spec_week (d : Int) (w : World) (wd : (Lit.int .i64 d).wf = true) :
    Calls Tryz.prog 136 #[.int .i64 d] w fun e w' => e = .returned (.int .i64 ((d % 7 + 4) % 7)) ∧ w = w' := by
  have c1 := mod_s d 7 w wd (by omega) (by omega)
  have h0 : 0 ≤ d % 7 := by omega
  have h1 : d % 7 ≤ 6 := by omega
  generalize d % 7 = a at *
  have c2 := mod_s (a + 4) 7 w (Go.WalkArith.wf_i64 ⟨by omega, by omega⟩) (by omega) (by omega)
  generalize (a + 4) % 7 = b at *
  go_enter Tryz.func136, Tryz.ntmps136
  go_wp2_with (fail)
  go_at_call 180
  refine c1.mono ?_
  rintro e w' ⟨rfl, rfl⟩
  go_wp2_with (fail)
  go_at_call 180
  refine c2.mono ?_
  rintro e w' ⟨rfl, rfl⟩
  go_wp2
  go_ret
  exact ⟨rfl, rfl⟩
end Go.Proofs.YtjeihicjfgimdaaGreatDoor.Dt
