/-
  CONTRACTS AND PLAIN FACTS, several texts in one; each says in its own words what it proves.
-/
import Derived.Test.YtidmppphlcfpjaaGreatDoorPqP
import Derived.Test.YtidmppphlcfpjaaGreatDoorPqQ
import Derived.Test.YtidmppphlcfpjaaGreatDoorPqF
import Derived.Test.YtidmppphlcfpjaaGreatDoorPqA
import Derived.LoopTactic
import Derived.Test.YtidmppphlcfpjaaGreatDoorPqH
import Derived.Test.YtidmppphlcfpjaaGreatDoorPqG
import Derived.Test.YtidmppphlcfpjaaGreatDoorPqL
import Derived.IntWalk
set_option linter.unusedSimpArgs false
set_option linter.unusedVariables false

/-
  CONTRACTS of the model's l3Long, DaysOf and CivilOf: each returns what the calendar says; nothing that was there before is changed.
-/
namespace Go.Proofs.YtidmppphlcfpjaaGreatDoor.Dt
open Go Go.RowKit
set_option linter.unusedVariables false
set_option maxRecDepth 1000000

theorem mlit (w : World) {k : Nat} (hk : k < 12) : (w.alloc (.cells #[.int .i64 31, .int .i64 28, .int .i64 31, .int .i64 30, .int .i64 31, .int .i64 30, .int .i64 31, .int .i64 31, .int .i64 30, .int .i64 31, .int .i64 30, .int .i64 31] 3)).cell? ⟨w.heap.size, k, none⟩ = some (.int .i64 (mdt k)) := by
  rw [World.cell?_alloc_new]
  have : ∀ k : Fin 12, (#[Value.int .i64 31, .int .i64 28, .int .i64 31, .int .i64 30, .int .i64 31, .int .i64 30, .int .i64 31, .int .i64 31, .int .i64 30, .int .i64 31, .int .i64 30, .int .i64 31] : Array Value)[k.1]? = some (.int .i64 (mdt k.1)) := by
    intro k
    match k with
    | ⟨0, _⟩ => rfl
    | ⟨1, _⟩ => rfl
    | ⟨2, _⟩ => rfl
    | ⟨3, _⟩ => rfl
    | ⟨4, _⟩ => rfl
    | ⟨5, _⟩ => rfl
    | ⟨6, _⟩ => rfl
    | ⟨7, _⟩ => rfl
    | ⟨8, _⟩ => rfl
    | ⟨9, _⟩ => rfl
    | ⟨10, _⟩ => rfl
    | ⟨11, _⟩ => rfl
  exact this ⟨k, hk⟩

set_option maxHeartbeats 1000000 in
theorem month_s (y : Int) (k : Nat) (w : World) (wy : (Lit.int .i64 y).wf = true) (hk : k ≤ 11) :
    Calls Tryz.prog 135 #[.int .i64 y, .int .i64 ((k : Int) + 1)] w (Num (dim y (k + 1)) w) := by
  have c1 := spec_leap y w wy
  have hc := mlit w (k := k) (by omega)
  have hd : dim y (k + 1) = if k = 1 ∧ lpB y = true then 29 else mdt k := by
    unfold dim
    rw [show ((k : Int) + 1 - 1).toNat = k by omega]
    by_cases h : k = 1
    · simp [h]
    · rw [if_neg (by omega), if_neg (by simp [h])]
  rw [hd]
  clear hd
  generalize mdt k = v at *
  by_cases h2 : k = 1
  · have k2 : ((k : Int) + 1 == 2) = true := b_yes (by omega)
    have H2 := Lib.hid h2
    cases hl : lpB y with
    | true =>
      rw [if_pos ⟨h2, rfl⟩]
      rw [hl] at c1
      clear hl h2
      go_enter Tryz.func135, Tryz.ntmps135
      go_wp2_with (go_at_call 136; refine c1.mono ?_; rintro e w' ⟨rfl, rfl⟩)
      go_ret
      exact ⟨rfl, Below.refl _ _⟩
    | false =>
      rw [if_neg (by simp)]
      rw [hl] at c1
      clear hl h2
      go_enter Tryz.func135, Tryz.ntmps135
      go_wp2_with (go_at_call 136; refine c1.mono ?_; rintro e w' ⟨rfl, rfl⟩)
      go_ret
      exact ⟨rfl, (Below.refl _ _).alloc (Nat.le_refl _) _⟩
  · have k2 : ((k : Int) + 1 == 2) = false := b_no (by omega)
    rw [if_neg (by simp [h2])]
    clear h2 c1
    go_enter Tryz.func135, Tryz.ntmps135
    go_wp2
    go_ret
    exact ⟨rfl, (Below.refl _ _).alloc (Nat.le_refl _) _⟩

set_option maxHeartbeats 2000000 in
theorem days_in_s (N K : Nat) (d : Int) (w : World) (hN : N ≤ 129) (hK : K ≤ 11) (hd1 : 1 ≤ d) (hd2 : d ≤ dim (1970 + N) (K + 1)) :
    Calls Tryz.prog 105 #[.int .i64 (1970 + (N : Int)), .int .i64 ((K : Int) + 1), .int .i64 d] w (Num (d - 1 + dby N + cum (1970 + N) K) w) := by
  have cm := month_s (1970 + N) K w (Go.WalkArith.wf_i64 ⟨by omega, by omega⟩) hK
  have hd3 : d ≤ 31 := by have := dim_bd (1970 + N) (K + 1) (by omega) (by omega); omega
  have HD := Lib.hid hd2
  generalize hdim : dim (1970 + (N : Int)) ((K : Int) + 1) = dm at cm HD
  clear hdim hd2
  unfold Num at cm
  go_enter Tryz.func105, Tryz.ntmps105
  go_wp2_with (fail)
  go_at_call 90
  refine (NumDiv.in_yes _ _ _ _ (by omega) (by omega)).mono ?_
  rintro e w' ⟨rfl, rfl⟩
  go_wp2_with (fail)
  go_at_call 90
  refine (NumDiv.in_yes _ _ _ _ (by omega) (by omega)).mono ?_
  rintro e w' ⟨rfl, rfl⟩
  go_wp2_with (fail)
  go_at_call 135
  refine cm.mono ?_
  rintro e w1 ⟨rfl, hb1⟩
  have HB := Lib.hid hb1
  clear hb1 cm
  go_wp2_with (fail)
  go_at_call 90
  refine (NumDiv.in_yes _ _ _ _ hd1 HD.out).mono ?_
  rintro e w' ⟨rfl, rfl⟩
  go_wp2
  go_loopw [7, 8] (fun s yr wr => ∃ n : Nat, n ≤ N ∧ yr = .int .i64 (1970 + (n : Int)) ∧ s = .int .i64 (d - 1 + dby n) ∧ Below w.heap.size w wr) (fun _ yr _ => (1970 + N) - (intOf yr).toNat)
  case atStart => exact ⟨0, Nat.zero_le _, rfl, by simp [dby], HB.out⟩
  case round =>
    clear HB
    obtain ⟨n, hn, rfl, rfl, hb⟩ := hrel
    have hdb := dby_bd n
    obtain ⟨db1, db2⟩ := hdb
    have db3 : 0 ≤ dby n := by omega
    have db4 : dby n ≤ 50000 := by omega
    by_cases hlt : n < N
    · have HS : Hid (dby (n + 1) = dby n + yl (1970 + n)) := Lib.hid rfl
      have cy := spec_leap (1970 + n) wr (Go.WalkArith.wf_i64 ⟨by omega, by omega⟩)
      have HB := Lib.hid hb
      clear hb db1 db2
      generalize dby n = s at *
      unfold yl at HS
      cases hl : lpB (1970 + (n : Int))
      all_goals
        rw [hl] at cy HS
        simp only [Bool.false_eq_true, if_false, if_true] at HS
        clear hl
        go_wp2_with (go_at_call 136; refine cy.mono ?_; rintro e w2 ⟨rfl, rfl⟩)
        go_roundw
        case rel => exact ⟨n + 1, by omega, by go_num, by rw [HS.out]; congr 1; omega, HB.out⟩
        case measure => simp [intOf]; omega
    · obtain rfl : n = N := by omega
      have HB := Lib.hid hb
      clear hb db1 db2
      generalize dby n = s at *
      go_wp2
      go_loopw [7, 9] (fun t mo wr => ∃ k : Nat, k ≤ K ∧ mo = .int .i64 ((k : Int) + 1) ∧ t = .int .i64 (d - 1 + s + cum (1970 + n) k) ∧ Below w.heap.size w wr) (fun _ mo _ => (K + 1) - (intOf mo).toNat)
      case atStart => exact ⟨0, Nat.zero_le _, rfl, by simp [cum], HB.out⟩
      case round =>
        clear HB
        obtain ⟨k, hk, rfl, rfl, hb⟩ := hrel
        have hcb := cum_bd (1970 + n) k (by omega)
        obtain ⟨cb1, cb2⟩ := hcb
        have cb3 : 0 ≤ cum (1970 + n) k := by omega
        have cb4 : cum (1970 + n) k ≤ 372 := by omega
        by_cases hlt2 : k < K
        · have hdm := dim_bd (1970 + n) (k + 1) (by omega) (by omega)
          obtain ⟨v1, v2⟩ := hdm
          have HS : Hid (cum (1970 + n) (k + 1) = cum (1970 + n) k + dim (1970 + n) (k + 1)) := Lib.hid rfl
          have cm := month_s (1970 + n) k wr (Go.WalkArith.wf_i64 ⟨by omega, by omega⟩) (by omega)
          unfold Num at cm
          have HB := Lib.hid hb
          clear hb cb1 cb2
          generalize cum (1970 + (n : Int)) k = c at *
          generalize dim (1970 + (n : Int)) ((k : Int) + 1) = v at *
          go_wp2_with (go_at_call 135; refine cm.mono ?_; rintro e w2 ⟨rfl, hb2⟩)
          go_roundw
          case rel => exact ⟨k + 1, by omega, by go_num, by rw [HS.out]; congr 1; omega, Base.then_below HB.out hb2⟩
          case measure => simp [intOf]; omega
        · obtain rfl : k = K := by omega
          have HB := Lib.hid hb
          clear hb cb1 cb2
          generalize cum (1970 + (n : Int)) k = c at *
          go_wp2
          go_ret
          exact num_ret (by omega) HB.out

set_option maxHeartbeats 2000000 in
theorem spec_days (y m d : Int) (w : World) (wy : (Lit.int .i64 y).wf = true) :
    Calls Tryz.prog 105 #[.int .i64 y, .int .i64 m, .int .i64 d] w (Num (dof y m d) w) := by
  by_cases h1 : y < 1970 ∨ 2099 < y
  · rw [dof_out (by omega)]
    have H1 := Lib.hid h1
    clear h1
    go_enter Tryz.func105, Tryz.ntmps105
    go_wp2_with (go_at_call 90; refine (NumDiv.in_no _ _ _ _ H1.out).mono ?_; rintro e w' ⟨rfl, rfl⟩)
    go_ret
    exact ⟨rfl, Below.refl _ _⟩
  have h1a : 1970 ≤ y := by omega
  have h1b : y ≤ 2099 := by omega
  clear h1
  by_cases h3 : m < 1 ∨ 12 < m
  · rw [dof_out (by omega)]
    have H3 := Lib.hid h3
    clear h3
    go_enter Tryz.func105, Tryz.ntmps105
    go_wp2_with (fail)
    go_at_call 90
    refine (NumDiv.in_yes _ _ _ _ h1a h1b).mono ?_
    rintro e w' ⟨rfl, rfl⟩
    go_wp2_with (fail)
    go_at_call 90
    refine (NumDiv.in_no _ _ _ _ H3.out).mono ?_
    rintro e w' ⟨rfl, rfl⟩
    go_wp2
    go_ret
    exact ⟨rfl, Below.refl _ _⟩
  obtain ⟨N, rfl⟩ : ∃ N : Nat, y = 1970 + (N : Int) := ⟨(y - 1970).toNat, by omega⟩
  obtain ⟨K, rfl⟩ : ∃ K : Nat, m = (K : Int) + 1 := ⟨(m - 1).toNat, by omega⟩
  by_cases h6 : d < 1 ∨ dim (1970 + N) (K + 1) < d
  · rw [dof_out (by omega)]
    have cm := month_s (1970 + N) K w (Go.WalkArith.wf_i64 ⟨by omega, by omega⟩) (by omega)
    unfold Num at cm
    have H6 := Lib.hid h6
    have H3 := Lib.hid h3
    generalize dim (1970 + (N : Int)) ((K : Int) + 1) = v at *
    clear wy h6 h3
    go_enter Tryz.func105, Tryz.ntmps105
    go_wp2_with (fail)
    go_at_call 90
    refine (NumDiv.in_yes _ _ _ _ (by omega) (by omega)).mono ?_
    rintro e w' ⟨rfl, rfl⟩
    go_wp2_with (fail)
    go_at_call 90
    refine (NumDiv.in_yes _ _ _ _ (by omega) (by have := H3.out; omega)).mono ?_
    rintro e w' ⟨rfl, rfl⟩
    go_wp2_with (fail)
    go_at_call 135
    refine cm.mono ?_
    rintro e w1 ⟨rfl, hb1⟩
    have HB := Lib.hid hb1
    clear hb1 cm
    go_wp2_with (fail)
    go_at_call 90
    refine (NumDiv.in_no _ _ _ _ H6.out).mono ?_
    rintro e w' ⟨rfl, rfl⟩
    go_wp2
    go_ret
    exact ⟨rfl, HB.out⟩
  · have e : dof (1970 + N) (K + 1) d = d - 1 + dby N + cum (1970 + N) K := by
      unfold dof
      rw [if_pos (by omega), show (1970 + (N : Int) - 1970).toNat = N by omega, show ((K : Int) + 1 - 1).toNat = K by omega]
    rw [e]
    exact days_in_s N K d w (by omega) (by omega) (by omega) (by omega)

set_option maxHeartbeats 2000000 in
theorem spec_civ (day : Int) (w : World) (h0 : 0 ≤ day) (h1 : day ≤ 47481) :
    Calls Tryz.prog 137 #[.int .i64 day] w (Civ day w) := by
  go_enter Tryz.func137, Tryz.ntmps137
  go_wp2_with (fail)
  go_at_call 90
  refine (NumDiv.in_yes _ _ _ _ h0 h1).mono ?_
  rintro e w' ⟨rfl, rfl⟩
  go_wp2
  go_loopw [0, 5] (fun t yr wr => ∃ n : Nat, n ≤ 129 ∧ yr = .int .i64 (1970 + (n : Int)) ∧ 0 ≤ day - dby n ∧ t = .int .i64 (day - dby n) ∧ Below w.heap.size w wr) (fun t _ _ => (intOf t).toNat)
  case atStart => exact ⟨0, by omega, rfl, by simp [dby]; omega, by simp [dby], Below.refl _ _⟩
  case round =>
    obtain ⟨n, hn, rfl, hp, rfl, hb⟩ := hrel
    have hdb := dby_bd n
    obtain ⟨db1, db2⟩ := hdb
    have db3 : 0 ≤ dby n := by omega
    have db4 : dby n ≤ 50000 := by omega
    have HS : Hid (dby (n + 1) = dby n + yl (1970 + n)) := Lib.hid rfl
    have cy := spec_leap (1970 + n) wr (Go.WalkArith.wf_i64 ⟨by omega, by omega⟩)
    have HY := Lib.hid (fun h => year_more (n := n) h1 h)
    have HC : Hid (¬ yl (1970 + n) ≤ day - dby n → ∀ k : Nat, k ≤ 11 → dim (1970 + (n : Int)) (k + 1) ≤ day - dby n - cum (1970 + n) k → k + 1 ≤ 11) := Lib.hid (fun hge k hk h => month_more hk (show day - dby n < yl (1970 + n) by omega) h)
    have HV : Hid (∀ k : Nat, k ≤ 11 → 0 ≤ day - dby n - cum (1970 + n) k → day - dby n - cum (1970 + n) k < dim (1970 + n) (k + 1) → CV day (1970 + n) (k + 1) (day - dby n - cum (1970 + n) k + 1)) := Lib.hid (fun k hk a b => cv_mk hn hk a b)
    have HB := Lib.hid hb
    clear hb db1 db2
    generalize dby n = s at *
    unfold yl at HS HY HC
    cases hl : lpB (1970 + (n : Int))
    all_goals
      rw [hl] at cy HS HY HC
      simp only [Bool.false_eq_true, if_false, if_true] at HS HY HC
      clear hl
    · by_cases hge : 365 ≤ day - s
      · have hn1 := HY.out hge
        go_wp2_with (go_at_call 136; refine cy.mono ?_; rintro e w2 ⟨rfl, rfl⟩)
        go_roundw
        case rel => exact ⟨n + 1, by omega, by go_num, by rw [HS.out]; omega, by rw [HS.out]; congr 1; omega, HB.out⟩
        case measure => simp [intOf]; omega
      · have HC2 := Lib.hid (HC.out hge)
        clear HC
        have hlt : day - s < 365 := by omega
        clear hge HY HS
        go_wp2_with (go_at_call 136; refine cy.mono ?_; rintro e w2 ⟨rfl, rfl⟩)
        go_loopw [0, 7] (fun t mo wr => ∃ k : Nat, k ≤ 11 ∧ mo = .int .i64 ((k : Int) + 1) ∧ 0 ≤ day - s - cum (1970 + n) k ∧ t = .int .i64 (day - s - cum (1970 + n) k) ∧ Below w.heap.size w wr) (fun t _ _ => (intOf t).toNat)
        case atStart => exact ⟨0, by omega, rfl, by simp [cum]; omega, by simp [cum], HB.out⟩
        case round =>
          clear HB
          obtain ⟨k, hk, rfl, hp2, rfl, hb⟩ := hrel
          have hcb := cum_bd (1970 + n) k (by omega)
          obtain ⟨cb1, cb2⟩ := hcb
          have cb3 : 0 ≤ cum (1970 + n) k := by omega
          have cb4 : cum (1970 + n) k ≤ 372 := by omega
          have hdm := dim_bd (1970 + n) (k + 1) (by omega) (by omega)
          obtain ⟨v1, v2⟩ := hdm
          have HS : Hid (cum (1970 + n) (k + 1) = cum (1970 + n) k + dim (1970 + n) (k + 1)) := Lib.hid rfl
          have cm := fun W => month_s (1970 + n) k W (Go.WalkArith.wf_i64 ⟨by omega, by omega⟩) (by omega)
          unfold Num at cm
          have HB := Lib.hid hb
          have HK := Lib.hid (HC2.out k hk)
          have HW := Lib.hid (HV.out k hk)
          clear hb cb1 cb2
          generalize cum (1970 + (n : Int)) k = c at *
          generalize dim (1970 + (n : Int)) ((k : Int) + 1) = v at *
          by_cases hge2 : v ≤ day - s - c
          · have hk1 := HK.out hge2
            go_wp2_with (fail)
            go_at_call 135
            refine (cm _).mono ?_
            rintro e w3 ⟨rfl, hb3⟩
            have HB3 := Lib.hid (Base.then_below HB.out hb3)
            clear hb3
            go_wp2_with (fail)
            go_at_call 135
            refine (cm _).mono ?_
            rintro e w4 ⟨rfl, hb4⟩
            have HB4 := Lib.hid (Base.then_below HB3.out hb4)
            clear hb4
            go_wp2
            go_roundw
            case rel => exact ⟨k + 1, hk1, by go_num, by rw [HS.out]; omega, by rw [HS.out]; congr 1; omega, HB4.out⟩
            case measure => simp [intOf]; omega
          · have hlt2 : day - s - c < v := by omega
            go_wp2_with (fail)
            go_at_call 135
            refine (cm _).mono ?_
            rintro e w3 ⟨rfl, hb3⟩
            have HB3 := Lib.hid (Base.then_below HB.out hb3)
            clear hb3
            go_wp2
            go_ret3
            exact ⟨_, _, _, HW.out hp2 hlt2, rfl, HB3.out⟩
    · by_cases hge : 366 ≤ day - s
      · have hn1 := HY.out hge
        go_wp2_with (go_at_call 136; refine cy.mono ?_; rintro e w2 ⟨rfl, rfl⟩)
        go_roundw
        case rel => exact ⟨n + 1, by omega, by go_num, by rw [HS.out]; omega, by rw [HS.out]; congr 1; omega, HB.out⟩
        case measure => simp [intOf]; omega
      · have HC2 := Lib.hid (HC.out hge)
        clear HC
        have hlt : day - s < 366 := by omega
        clear hge HY HS
        go_wp2_with (go_at_call 136; refine cy.mono ?_; rintro e w2 ⟨rfl, rfl⟩)
        go_loopw [0, 7] (fun t mo wr => ∃ k : Nat, k ≤ 11 ∧ mo = .int .i64 ((k : Int) + 1) ∧ 0 ≤ day - s - cum (1970 + n) k ∧ t = .int .i64 (day - s - cum (1970 + n) k) ∧ Below w.heap.size w wr) (fun t _ _ => (intOf t).toNat)
        case atStart => exact ⟨0, by omega, rfl, by simp [cum]; omega, by simp [cum], HB.out⟩
        case round =>
          clear HB
          obtain ⟨k, hk, rfl, hp2, rfl, hb⟩ := hrel
          have hcb := cum_bd (1970 + n) k (by omega)
          obtain ⟨cb1, cb2⟩ := hcb
          have cb3 : 0 ≤ cum (1970 + n) k := by omega
          have cb4 : cum (1970 + n) k ≤ 372 := by omega
          have hdm := dim_bd (1970 + n) (k + 1) (by omega) (by omega)
          obtain ⟨v1, v2⟩ := hdm
          have HS : Hid (cum (1970 + n) (k + 1) = cum (1970 + n) k + dim (1970 + n) (k + 1)) := Lib.hid rfl
          have cm := fun W => month_s (1970 + n) k W (Go.WalkArith.wf_i64 ⟨by omega, by omega⟩) (by omega)
          unfold Num at cm
          have HB := Lib.hid hb
          have HK := Lib.hid (HC2.out k hk)
          have HW := Lib.hid (HV.out k hk)
          clear hb cb1 cb2
          generalize cum (1970 + (n : Int)) k = c at *
          generalize dim (1970 + (n : Int)) ((k : Int) + 1) = v at *
          by_cases hge2 : v ≤ day - s - c
          · have hk1 := HK.out hge2
            go_wp2_with (fail)
            go_at_call 135
            refine (cm _).mono ?_
            rintro e w3 ⟨rfl, hb3⟩
            have HB3 := Lib.hid (Base.then_below HB.out hb3)
            clear hb3
            go_wp2_with (fail)
            go_at_call 135
            refine (cm _).mono ?_
            rintro e w4 ⟨rfl, hb4⟩
            have HB4 := Lib.hid (Base.then_below HB3.out hb4)
            clear hb4
            go_wp2
            go_roundw
            case rel => exact ⟨k + 1, hk1, by go_num, by rw [HS.out]; omega, by rw [HS.out]; congr 1; omega, HB4.out⟩
            case measure => simp [intOf]; omega
          · have hlt2 : day - s - c < v := by omega
            go_wp2_with (fail)
            go_at_call 135
            refine (cm _).mono ?_
            rintro e w3 ⟨rfl, hb3⟩
            have HB3 := Lib.hid (Base.then_below HB.out hb3)
            clear hb3
            go_wp2
            go_ret3
            exact ⟨_, _, _, HW.out hp2 hlt2, rfl, HB3.out⟩

theorem spec_civ_out (day : Int) (w : World) (h : day < 0 ∨ 47481 < day) :
    Calls Tryz.prog 137 #[.int .i64 day] w fun e w' => e = .returned (.tuple #[.int .i64 0, .int .i64 0, .int .i64 0]) ∧ Below w.heap.size w w' := by
  have H := Lib.hid h
  clear h
  go_enter Tryz.func137, Tryz.ntmps137
  go_wp2_with (go_at_call 90; refine (NumDiv.in_no _ _ _ _ H.out).mono ?_; rintro e w' ⟨rfl, rfl⟩)
  go_ret3
  exact ⟨rfl, Below.refl _ _⟩
end Go.Proofs.YtidmppphlcfpjaaGreatDoor.Dt

/-
  CONTRACT of the model's WeekdayOf: at every integer of 64 bits it returns the weekday; the world stays as it was.
-/
namespace Go.Proofs.YtidmppphlcfpjaaGreatDoor.Dt
open Go Go.RowKit
set_option linter.unusedVariables false
set_option maxRecDepth 1000000

theorem spec_week (d : Int) (w : World) (wd : (Lit.int .i64 d).wf = true) :
    Calls Tryz.prog 139 #[.int .i64 d] w fun e w' => e = .returned (.int .i64 ((d % 7 + 4) % 7)) ∧ w = w' := by
  have c1 := mod_s d 7 w wd (by omega) (by omega)
  have h0 : 0 ≤ d % 7 := by omega
  have h1 : d % 7 ≤ 6 := by omega
  generalize d % 7 = a at *
  have c2 := mod_s (a + 4) 7 w (Go.WalkArith.wf_i64 ⟨by omega, by omega⟩) (by omega) (by omega)
  generalize (a + 4) % 7 = b at *
  go_enter Tryz.func139, Tryz.ntmps139
  go_wp2_with (fail)
  go_at_call 167
  refine c1.mono ?_
  rintro e w' ⟨rfl, rfl⟩
  go_wp2_with (fail)
  go_at_call 167
  refine c2.mono ?_
  rintro e w' ⟨rfl, rfl⟩
  go_wp2
  go_ret
  exact ⟨rfl, rfl⟩
end Go.Proofs.YtidmppphlcfpjaaGreatDoor.Dt

/-
  CONTRACT of the model's Digits: at every two integers of 64 bits it returns the digits that are asked for; nothing that was there before is changed.
-/
namespace Go.Proofs.YtidmppphlcfpjaaGreatDoor.Dig
open Go Go.RowKit
set_option linter.unusedVariables false
set_option maxRecDepth 1000000

theorem spec_max0 (n : Int) (w : World) :
    Calls Tryz.prog 80 #[.int .i64 0, .int .i64 n] w fun e w' => e = .returned (.int .i64 (mx n)) ∧ w = w' := by
  by_cases h : 0 < n
  · have e : mx n = n := by unfold mx; rw [if_neg (by omega)]
    rw [e]; clear e
    go_enter Tryz.func80, Tryz.ntmps80
    go_wp2
    go_ret
    exact ⟨rfl, rfl⟩
  · have e : mx n = 0 := by unfold mx; split <;> omega
    rw [e]; clear e
    go_enter Tryz.func80, Tryz.ntmps80
    go_wp2
    go_ret
    exact ⟨rfl, rfl⟩

set_option maxHeartbeats 400000 in
theorem spec_digits (n width : Int) (w : World) (h1 : n ≤ 9223372036854775807) :
    Calls Tryz.prog 140 #[.int .i64 n, .int .i64 width] w fun e w' => e = .returned (.string ⟨(digs n width).toArray⟩) ∧ Below w.heap.size w w' := by
  obtain ⟨b0, b1⟩ := mx_bd h1
  have hl := Fmt.itoa_len (n := mx n) (by omega) b1
  obtain ⟨hm1, hm2, hm3⟩ := mn_bd width
  have HL := Lib.hid hl.2
  have HM := Lib.hid hm3
  clear hl hm3
  go_enter Tryz.func140, Tryz.ntmps140
  go_wp2_with (first | (go_at_call 80; refine (spec_max0 n _).mono ?_; rintro e w' ⟨rfl, rfl⟩) | (go_at_call 122; refine (Fmt.spec_fmt (mx n) (by omega) b1 _).mono ?_; rintro e w1 ⟨rfl, hb1⟩))
  go_loop [5] (fun s => ∃ l : List UInt8, s = .string ⟨l.toArray⟩ ∧ l.length ≤ 20 ∧ zpad l (mn width).toNat = digs n width) (fun s => 20 - strLen s)
  case atStart => exact ⟨_, rfl, HL.out, rfl⟩
  case round =>
    obtain ⟨l, rfl, hll, hz⟩ := hrel
    have HZ := Lib.hid hz
    clear hz
    have hadd := Fmt.addone 48 l (by omega)
    by_cases ha : (l.length : Int) < width
    · by_cases hb : (l.length : Int) < 20
      · have HS := Lib.hid ((zpad_step (l := l) (k := (mn width).toNat) (by have := HM.out; omega)).trans HZ.out)
        go_wp2
        go_round
        case rel => exact ⟨48 :: l, rfl, by simp; omega, HS.out⟩
        case measure => simp [strLen, ByteArray.size]; omega
      · have HE := Lib.hid ((zpad_done (l := l) (k := (mn width).toNat) (by have := HM.out; omega)).symm.trans HZ.out)
        go_wp2
        go_ret
        exact ⟨Fmt.ret_str HE.out, hb1⟩
    · have HE := Lib.hid ((zpad_done (l := l) (k := (mn width).toNat) (by have := HM.out; omega)).symm.trans HZ.out)
      go_wp2
      go_ret
      exact ⟨Fmt.ret_str HE.out, hb1⟩
end Go.Proofs.YtidmppphlcfpjaaGreatDoor.Dig

/-
  CONTRACTS of the model's FormatDate and of what it calls; nothing that was there before is changed.
-/
namespace Go.Proofs.YtidmppphlcfpjaaGreatDoor.Dt
open Go Go.RowKit
set_option linter.unusedVariables false
set_option maxRecDepth 1000000

def form2 (t y m d : Int) : List UInt8 := dnm (wkd (t / 86400)) ++ [44, 32] ++ Dig.digs d 2 ++ [45] ++ mnm (m - 1).toNat ++ [45] ++ Dig.digs (y % 100) 2 ++ [32] ++ clk (t % 86400) ++ [32, 71, 77, 84]
def dtx (d : Int) : List UInt8 := if d < 10 then [32] ++ Lib.itoa d else Dig.digs d 2
def form3 (t y m d : Int) : List UInt8 := (dnm (wkd (t / 86400))).take 3 ++ [32] ++ mnm (m - 1).toNat ++ [32] ++ dtx d ++ [32] ++ clk (t % 86400) ++ [32] ++ Dig.digs y 4
theorem cut3s (l : List UInt8) : (⟨l.toArray⟩ : ByteArray).extract 0 3 = ⟨(l.take 3).toArray⟩ := by rw [Tx.ext_eq]; simp
def Table (f : Nat → List UInt8) (n : Nat) (w : World) (e : Ending) (w' : World) : Prop := ∃ g, e = .returned (.slice (some ⟨g, 0, none⟩) n n) ∧ (∀ k, k < n → w'.cell? ⟨g, k, none⟩ = some (.string ⟨(f k).toArray⟩)) ∧ Below w.heap.size w w'
theorem days_tab (w : World) : Calls Tryz.prog 138 #[] w (Table dnm 7 w) := by
  go_enter Tryz.func138, Tryz.ntmps138
  go_wp2
  go_ret
  refine ⟨w.heap.size, rfl, fun k hk => ?_, (Below.refl _ _).alloc (Nat.le_refl _) _⟩
  rw [World.cell?_alloc_new]
  match k, hk with
  | 0, _ => rfl | 1, _ => rfl | 2, _ => rfl | 3, _ => rfl | 4, _ => rfl | 5, _ => rfl | 6, _ => rfl
  | k + 7, h => omega
theorem mons_tab (w : World) : Calls Tryz.prog 134 #[] w (Table mnm 12 w) := by
  go_enter Tryz.func134, Tryz.ntmps134
  go_wp2
  go_ret
  refine ⟨w.heap.size, rfl, fun k hk => ?_, (Below.refl _ _).alloc (Nat.le_refl _) _⟩
  rw [World.cell?_alloc_new]
  match k, hk with
  | 0, _ => rfl | 1, _ => rfl | 2, _ => rfl | 3, _ => rfl | 4, _ => rfl | 5, _ => rfl | 6, _ => rfl | 7, _ => rfl | 8, _ => rfl | 9, _ => rfl | 10, _ => rfl | 11, _ => rfl
  | k + 12, h => omega

set_option maxRecDepth 1000000 in
set_option maxHeartbeats 2000000 in
theorem spec_clock (t : Int) (w : World) (h0 : 0 ≤ t) (h1 : t ≤ 4102444799) : Calls Tryz.prog 141 #[.int .i64 t] w fun e w' => e = .returned (.string ⟨(clk (t % 86400)).toArray⟩) ∧ Below w.heap.size w w' := by
  have hs0 : 0 ≤ t % 86400 := by omega
  have hs1 : t % 86400 ≤ 86399 := by omega
  have hs2 : 0 ≤ t % 86400 / 60 := by omega
  have hs3 : t % 86400 / 60 ≤ 1439 := by omega
  have HCK : Hid (clk (t % 86400) = Dig.digs (t % 86400 / 3600) 2 ++ [58] ++ Dig.digs (t % 86400 / 60 % 60) 2 ++ [58] ++ Dig.digs (t % 60) 2) := Lib.hid (by unfold clk; rw [show t % 86400 % 3600 / 60 = t % 86400 / 60 % 60 by omega, show t % 86400 % 60 = t % 60 by omega])
  have HG1 := Lib.hid (fun W => Dig.spec_digits (t % 86400 / 3600) 2 W (by omega))
  have HG2 := Lib.hid (fun W => Dig.spec_digits (t % 86400 / 60 % 60) 2 W (by omega))
  have HG3 := Lib.hid (fun W => Dig.spec_digits (t % 60) 2 W (by omega))
  have l1 := dg2 (n := t % 86400 / 3600) (by omega) 2
  have l2 := dg2 (n := t % 86400 / 60 % 60) (by omega) 2
  have l3 := dg2 (n := t % 60) (by omega) 2
  rw [HCK.out]
  generalize Dig.digs (t % 86400 / 3600) 2 = x1 at HG1 l1 ⊢
  generalize Dig.digs (t % 86400 / 60 % 60) 2 = x2 at HG2 l2 ⊢
  generalize Dig.digs (t % 60) 2 = x3 at HG3 l3 ⊢
  have a1 := Tx.addtwo x1 [58] (by simp only [List.length_cons, List.length_nil]; omega)
  have a2 := Tx.addtwo (x1 ++ [58]) x2 (by simp only [List.length_append, List.length_cons, List.length_nil]; omega)
  have a3 := Tx.addtwo (x1 ++ [58] ++ x2) [58] (by simp only [List.length_append, List.length_cons, List.length_nil]; omega)
  have a4 := Tx.addtwo (x1 ++ [58] ++ x2 ++ [58]) x3 (by simp only [List.length_append, List.length_cons, List.length_nil]; omega)
  generalize x1 ++ [58] = y1 at a1 a2 a3 a4 ⊢
  generalize y1 ++ x2 = y2 at a2 a3 a4 ⊢
  generalize y2 ++ [58] = y3 at a3 a4 ⊢
  generalize y3 ++ x3 = y4 at a4 ⊢
  clear l1 l2 l3 HCK
  go_enter Tryz.func141, Tryz.ntmps141
  go_wp2_with (fail)
  go_at_call 140
  with_reducible refine (HG1.out _).mono ?_
  rintro e w1 ⟨rfl, hb1⟩
  have HB := Lib.hid hb1
  clear hb1
  go_wp2_with (fail)
  go_at_call 140
  with_reducible refine (HG2.out _).mono ?_
  rintro e w2 ⟨rfl, hb2⟩
  have HB := Lib.hid (Base.then_below HB.out hb2)
  clear hb2
  go_wp2_with (fail)
  go_at_call 140
  with_reducible refine (HG3.out _).mono ?_
  rintro e w3 ⟨rfl, hb3⟩
  have HB := Lib.hid (Base.then_below HB.out hb3)
  clear hb3
  go_wp2
  go_ret
  exact ⟨rfl, HB.out⟩
end Go.Proofs.YtidmppphlcfpjaaGreatDoor.Dt

/-
  PLAIN FACTS on dates that are read from their places: a text that is written in one of the three forms has the parts of its time at the places of that form.
-/
namespace Go.Proofs.YtidmppphlcfpjaaGreatDoor.Dt
open Go Go.RowKit
set_option linter.unusedVariables false
set_option maxRecDepth 1000000

def lz (c : UInt8) : Int := if 48 ≤ c.toNat ∧ c.toNat ≤ 57 then c.toNat - 48 else 0
def loose (l : List UInt8) : Int := l.foldl (fun n c => n * 10 + lz c) 0
def dig (c : UInt8) : Bool := decide (48 ≤ c.toNat ∧ c.toNat ≤ 57)
theorem lz_bd (c : UInt8) : 0 ≤ lz c ∧ lz c ≤ 9 := by unfold lz; split <;> omega
theorem digs2 {n : Int} (h0 : 0 ≤ n) (h1 : n ≤ 99) : ∃ a b, Dig.digs n 2 = [a, b] ∧ dig a = true ∧ dig b = true ∧ 10 * lz a + lz b = n := by
  have : ∀ k : Fin 100, (Dig.digs (k.1 : Int) 2).length = 2 ∧ dig ((Dig.digs (k.1 : Int) 2).getD 0 0) = true ∧ dig ((Dig.digs (k.1 : Int) 2).getD 1 0) = true ∧ 10 * lz ((Dig.digs (k.1 : Int) 2).getD 0 0) + lz ((Dig.digs (k.1 : Int) 2).getD 1 0) = (k.1 : Int) := by decide +kernel
  have h := this ⟨n.toNat, by omega⟩
  rw [show ((n.toNat : Nat) : Int) = n by omega] at h
  generalize Dig.digs n 2 = l at h ⊢
  match l, h with
  | [a, b], h => exact ⟨a, b, rfl, h.2.1, h.2.2.1, h.2.2.2⟩
theorem digs4 {n : Int} (h0 : 1970 ≤ n) (h1 : n ≤ 2099) : ∃ a b c d, Dig.digs n 4 = [a, b, c, d] ∧ dig a = true ∧ dig b = true ∧ dig c = true ∧ dig d = true ∧ 1000 * lz a + 100 * lz b + 10 * lz c + lz d = n := by
  have : ∀ k : Fin 130, (Dig.digs (1970 + (k.1 : Int)) 4).length = 4 ∧ dig ((Dig.digs (1970 + (k.1 : Int)) 4).getD 0 0) = true ∧ dig ((Dig.digs (1970 + (k.1 : Int)) 4).getD 1 0) = true ∧ dig ((Dig.digs (1970 + (k.1 : Int)) 4).getD 2 0) = true ∧ dig ((Dig.digs (1970 + (k.1 : Int)) 4).getD 3 0) = true ∧ 1000 * lz ((Dig.digs (1970 + (k.1 : Int)) 4).getD 0 0) + 100 * lz ((Dig.digs (1970 + (k.1 : Int)) 4).getD 1 0) + 10 * lz ((Dig.digs (1970 + (k.1 : Int)) 4).getD 2 0) + lz ((Dig.digs (1970 + (k.1 : Int)) 4).getD 3 0) = 1970 + (k.1 : Int) := by decide +kernel
  have h := this ⟨(n - 1970).toNat, by omega⟩
  rw [show 1970 + (((n - 1970).toNat : Nat) : Int) = n by omega] at h
  generalize Dig.digs n 4 = l at h ⊢
  match l, h with
  | [a, b, c, d], h => exact ⟨a, b, c, d, rfl, h.2.1, h.2.2.1, h.2.2.2.1, h.2.2.2.2.1, h.2.2.2.2.2⟩
theorem dtx2 {n : Int} (h0 : 1 ≤ n) (h1 : n ≤ 31) : ∃ a b, dtx n = [a, b] ∧ (a = 32 ∨ dig a = true) ∧ dig b = true ∧ 10 * lz a + lz b = n := by
  have : ∀ k : Fin 31, (dtx (1 + (k.1 : Int))).length = 2 ∧ ((dtx (1 + (k.1 : Int))).getD 0 0 = 32 ∨ dig ((dtx (1 + (k.1 : Int))).getD 0 0) = true) ∧ dig ((dtx (1 + (k.1 : Int))).getD 1 0) = true ∧ 10 * lz ((dtx (1 + (k.1 : Int))).getD 0 0) + lz ((dtx (1 + (k.1 : Int))).getD 1 0) = 1 + (k.1 : Int) := by decide +kernel
  have h := this ⟨(n - 1).toNat, by omega⟩
  rw [show 1 + (((n - 1).toNat : Nat) : Int) = n by omega] at h
  generalize dtx n = l at h ⊢
  match l, h with
  | [a, b], h => exact ⟨a, b, rfl, h.2.1, h.2.2.1, h.2.2.2⟩
/-- The month with this name; 0 where there is none. -/
def monOf (l : List UInt8) : Int := if mons12.idxOf l < 12 then (mons12.idxOf l : Int) + 1 else 0
theorem monOf_mnm {k : Nat} (h : k < 12) : ∃ a b c, mnm k = [a, b, c] ∧ monOf [a, b, c] = (k : Int) + 1 := by
  have : ∀ k : Fin 12, (mnm k.1).length = 3 ∧ monOf (mnm k.1) = (k.1 : Int) + 1 := by decide +kernel
  have h := this ⟨k, h⟩
  simp only at h
  generalize mnm k = l at h ⊢
  match l, h with
  | [a, b, c], h => exact ⟨a, b, c, rfl, h.2⟩
theorem clk8 {s : Int} (h0 : 0 ≤ s) (h1 : s ≤ 86399) : ∃ a b c d e f, clk s = [a, b, 58, c, d, 58, e, f] ∧ (dig a = true ∧ dig b = true ∧ dig c = true ∧ dig d = true ∧ dig e = true ∧ dig f = true) ∧ 3600 * (10 * lz a + lz b) + 60 * (10 * lz c + lz d) + (10 * lz e + lz f) = s := by
  obtain ⟨a, b, h, q1, q2, q⟩ := digs2 (n := s / 3600) (by omega) (by omega)
  obtain ⟨c, d, i, r1, r2, r⟩ := digs2 (n := s % 3600 / 60) (by omega) (by omega)
  obtain ⟨e, f, j, s1, s2, t⟩ := digs2 (n := s % 60) (by omega) (by omega)
  refine ⟨a, b, c, d, e, f, by unfold clk; rw [h, i, j]; rfl, ⟨q1, q2, r1, r2, s1, s2⟩, by omega⟩
theorem dnm3 {k : Nat} (h : k < 7) : ∃ a b c r, dnm k = a :: b :: c :: r ∧ 3 ≤ r.length ∧ r.length ≤ 6 := by
  have : ∀ k : Fin 7, 6 ≤ (dnm k.1).length ∧ (dnm k.1).length ≤ 9 := by decide
  have h := this ⟨k, h⟩
  simp only at h
  generalize dnm k = l at h ⊢
  match l, h with
  | a :: b :: c :: r, h => exact ⟨a, b, c, r, rfl, by simp at h; omega, by simp at h; omega⟩
def InT (t : Int) : Prop := 0 ≤ t ∧ t ≤ 4102444799
theorem loose2 (a b : UInt8) : loose [a, b] = 10 * lz a + lz b := by simp [loose]; omega
theorem loose4 (a b c d : UInt8) : loose [a, b, c, d] = 1000 * lz a + 100 * lz b + 10 * lz c + lz d := by simp [loose]; omega
theorem loose_snoc (l : List UInt8) (c : UInt8) : loose (l ++ [c]) = loose l * 10 + lz c := by unfold loose; rw [List.foldl_append]; rfl
theorem loose_bd : ∀ (l : List UInt8), 0 ≤ loose l ∧ loose l + 1 ≤ 10 ^ l.length := by
  intro l
  suffices h : ∀ n : Nat, ∀ l : List UInt8, l.length = n → 0 ≤ loose l ∧ loose l + 1 ≤ 10 ^ n by exact h _ l rfl
  intro n
  induction n with
  | zero => intro l h; obtain rfl := List.length_eq_zero_iff.1 h; simp [loose]
  | succ n ih =>
    intro l h
    obtain ⟨t, c, rfl⟩ : ∃ t c, l = t ++ [c] := by
      rcases List.eq_nil_or_concat l with h0 | ⟨t, c, h0⟩
      · subst h0; simp at h
      · exact ⟨t, c, by simpa using h0⟩
    have := ih t (by simp at h; omega)
    have hz := lz_bd c
    rw [loose_snoc]
    have e : (10 : Int) ^ (n + 1) = 10 ^ n * 10 := by rw [Int.pow_succ]
    omega
/-- The number of two digits at an index; -1 if there are none. -/
def tw (l : List UInt8) (k : Nat) : Int := if dig (l.getD k 0) = true ∧ dig (l.getD (k + 1) 0) = true then 10 * lz (l.getD k 0) + lz (l.getD (k + 1) 0) else -1
theorem tw_bd (l : List UInt8) (k : Nat) : -1 ≤ tw l k ∧ tw l k ≤ 99 := by
  unfold tw; have a := lz_bd (l.getD k 0); have b := lz_bd (l.getD (k + 1) 0); split <;> omega
theorem tw_yes {l : List UInt8} {k : Nat} {a b : UInt8} (h1 : l.getD k 0 = a) (h2 : l.getD (k + 1) 0 = b) (ha : dig a = true) (hb : dig b = true) : tw l k = 10 * lz a + lz b := by
  unfold tw; rw [h1, h2, if_pos ⟨ha, hb⟩]
/-- The seconds of a clock, read without a look. -/
def clo (ck : List UInt8) : Int := loose (ck.take 2) * 3600 + loose ((ck.drop 3).take 2) * 60 + loose (ck.drop 6)
def clt (l : List UInt8) (k : Nat) : Int := 3600 * tw l k + 60 * tw l (k + 3) + tw l (k + 6)
theorem clo_bd {ck : List UInt8} (h : ck.length = 8) : 0 ≤ clo ck ∧ clo ck ≤ 362439 := by
  have a := loose_bd (ck.take 2)
  have b := loose_bd ((ck.drop 3).take 2)
  have c := loose_bd (ck.drop 6)
  rw [show (ck.take 2).length = 2 by simp; omega] at a
  rw [show ((ck.drop 3).take 2).length = 2 by simp; omega] at b
  rw [show (ck.drop 6).length = 2 by simp; omega] at c
  unfold clo; omega
theorem clt_bd (l : List UInt8) (k : Nat) : -3661 ≤ clt l k ∧ clt l k ≤ 362439 := by
  have a := tw_bd l k; have b := tw_bd l (k + 3); have c := tw_bd l (k + 6); unfold clt; omega
theorem getD_back (p x : List UInt8) (k j : Nat) (h : k = p.length + j) : (p ++ x).getD k 0 = x.getD j 0 := by
  subst h; simp [List.getD_eq_getElem?_getD, List.getElem?_append_right]
theorem read1 {t y m d : Int} {l : List UInt8} (ht : InT t) (hy0 : 1970 ≤ y) (hy1 : y ≤ 2099) (hm0 : 1 ≤ m) (hm1 : m ≤ 12) (hd0 : 1 ≤ d) (hd1 : d ≤ 31) (h : l = form1 t y m d) :
    l.length = 29 ∧ (loose ((l.drop 12).take 4) = y ∧ monOf ((l.drop 8).take 3) = m ∧ loose ((l.drop 5).take 2) = d ∧ clo ((l.drop 17).take 8) = t % 86400) ∧ (100 * tw l 12 + tw l 14 = y ∧ tw l 5 = d ∧ clt l 17 = t % 86400) := by
  obtain ⟨w1, w2, w3, wr, hw, _, _⟩ := dnm3 (wkd_lt (t / 86400))
  obtain ⟨d1, d2, hd, qd1, qd2, qd⟩ := digs2 (n := d) (by omega) (by omega)
  obtain ⟨m1, m2, m3, hm, qm⟩ := monOf_mnm (k := (m - 1).toNat) (by omega)
  obtain ⟨y1, y2, y3, y4, hy, r1, r2, r3, r4, qy⟩ := digs4 hy0 hy1
  obtain ⟨a, b, c, z, f, g, hc, ⟨s1, s2, s3, s4, s5, s6⟩, qc⟩ := clk8 (s := t % 86400) (by have := ht.1; omega) (by omega)
  have e : l = [w1, w2, w3, 44, 32, d1, d2, 32, m1, m2, m3, 32, y1, y2, y3, y4, 32, a, b, 58, c, z, 58, f, g, 32, 71, 77, 84] := by
    rw [h]; unfold form1; rw [hw, hd, hm, hy, hc]; rfl
  clear h
  subst e
  refine ⟨rfl, ⟨(loose4 y1 y2 y3 y4).trans qy, qm.trans (by omega), (loose2 d1 d2).trans qd, ?_⟩, ?_, ?_, ?_⟩
  · show loose [a, b] * 3600 + loose [c, z] * 60 + loose [f, g] = _
    rw [loose2, loose2, loose2]; omega
  · rw [tw_yes (k := 12) (a := y1) (b := y2) rfl rfl r1 r2, tw_yes (k := 14) (a := y3) (b := y4) rfl rfl r3 r4]; omega
  · rw [tw_yes (k := 5) (a := d1) (b := d2) rfl rfl qd1 qd2]; omega
  · unfold clt; rw [tw_yes (k := 17) (a := a) (b := b) rfl rfl s1 s2, tw_yes (k := 20) (a := c) (b := z) rfl rfl s3 s4, tw_yes (k := 23) (a := f) (b := g) rfl rfl s5 s6]; omega
def dtw (l : List UInt8) : Int := if l.getD 8 0 = 32 then ((l.getD 9 0).toNat : Int) - 48 else tw l 8
theorem read3 {t y m d : Int} {l : List UInt8} (ht : InT t) (hy0 : 1970 ≤ y) (hy1 : y ≤ 2099) (hm0 : 1 ≤ m) (hm1 : m ≤ 12) (hd0 : 1 ≤ d) (hd1 : d ≤ 31) (h : l = form3 t y m d) :
    l.length = 24 ∧ (loose ((l.drop 20).take 4) = y ∧ monOf ((l.drop 4).take 3) = m ∧ loose ((l.drop 8).take 2) = d ∧ clo ((l.drop 11).take 8) = t % 86400) ∧ (100 * tw l 20 + tw l 22 = y ∧ dtw l = d ∧ clt l 11 = t % 86400) := by
  obtain ⟨w1, w2, w3, wr, hw, _, _⟩ := dnm3 (wkd_lt (t / 86400))
  obtain ⟨d1, d2, hd, qd1, qd2, qd⟩ := dtx2 (n := d) (by omega) (by omega)
  obtain ⟨m1, m2, m3, hm, qm⟩ := monOf_mnm (k := (m - 1).toNat) (by omega)
  obtain ⟨y1, y2, y3, y4, hy, r1, r2, r3, r4, qy⟩ := digs4 hy0 hy1
  obtain ⟨a, b, c, z, f, g, hc, ⟨s1, s2, s3, s4, s5, s6⟩, qc⟩ := clk8 (s := t % 86400) (by have := ht.1; omega) (by omega)
  have e : l = [w1, w2, w3, 32, m1, m2, m3, 32, d1, d2, 32, a, b, 58, c, z, 58, f, g, 32, y1, y2, y3, y4] := by
    rw [h]; unfold form3; rw [hw, hd, hm, hy, hc]; rfl
  clear h
  subst e
  refine ⟨rfl, ⟨(loose4 y1 y2 y3 y4).trans qy, qm.trans (by omega), (loose2 d1 d2).trans qd, ?_⟩, ?_, ?_, ?_⟩
  · show loose [a, b] * 3600 + loose [c, z] * 60 + loose [f, g] = _
    rw [loose2, loose2, loose2]; omega
  · rw [tw_yes (k := 20) (a := y1) (b := y2) rfl rfl r1 r2, tw_yes (k := 22) (a := y3) (b := y4) rfl rfl r3 r4]; omega
  · unfold dtw
    show (if d1 = 32 then ((d2.toNat : Nat) : Int) - 48 else _) = d
    split
    · rename_i hs
      subst hs
      have : lz 32 = 0 := by decide
      have h2 : lz d2 = (d2.toNat : Int) - 48 := by unfold lz; unfold dig at qd2; rw [if_pos (by simpa using qd2)]
      omega
    · rename_i hs
      rw [tw_yes (k := 8) (a := d1) (b := d2) rfl rfl (by rcases qd1 with q | q; exact absurd q hs; exact q) qd2]; omega
  · unfold clt; rw [tw_yes (k := 11) (a := a) (b := b) rfl rfl s1 s2, tw_yes (k := 14) (a := c) (b := z) rfl rfl s3 s4, tw_yes (k := 17) (a := f) (b := g) rfl rfl s5 s6]; omega
theorem read2 {t y m d : Int} {l : List UInt8} (ht : InT t) (hy0 : 1970 ≤ y) (hy1 : y ≤ 2099) (hm0 : 1 ≤ m) (hm1 : m ≤ 12) (hd0 : 1 ≤ d) (hd1 : d ≤ 31) (h : l = form2 t y m d) :
    (30 ≤ l.length ∧ l.length ≤ 33) ∧ (loose (((l.drop (l.length - 24)).drop 9).take 2) = y % 100 ∧ monOf (((l.drop (l.length - 24)).drop 5).take 3) = m ∧ loose (((l.drop (l.length - 24)).drop 2).take 2) = d ∧ clo (((l.drop (l.length - 24)).drop 12).take 8) = t % 86400) ∧ (tw l (l.length - 15) = y % 100 ∧ tw l (l.length - 22) = d ∧ clt l (l.length - 12) = t % 86400) := by
  obtain ⟨w1, w2, w3, wr, hw, hw1, hw2⟩ := dnm3 (wkd_lt (t / 86400))
  obtain ⟨d1, d2, hd, qd1, qd2, qd⟩ := digs2 (n := d) (by omega) (by omega)
  obtain ⟨m1, m2, m3, hm, qm⟩ := monOf_mnm (k := (m - 1).toNat) (by omega)
  obtain ⟨y1, y2, hy, r1, r2, qy⟩ := digs2 (n := y % 100) (by omega) (by omega)
  obtain ⟨a, b, c, z, f, g, hc, ⟨s1, s2, s3, s4, s5, s6⟩, qc⟩ := clk8 (s := t % 86400) (by have := ht.1; omega) (by omega)
  obtain ⟨p, hp⟩ : ∃ p, p = w1 :: w2 :: w3 :: wr := ⟨_, rfl⟩
  have hpl : p.length = wr.length + 3 := by rw [hp]; simp
  have e : l = p ++ [44, 32, d1, d2, 45, m1, m2, m3, 45, y1, y2, 32, a, b, 58, c, z, 58, f, g, 32, 71, 77, 84] := by
    rw [h]; unfold form2; rw [hw, hd, hm, hy, hc, hp]; simp
  clear h
  have hl : l.length = p.length + 24 := by rw [e]; simp
  have hdr : l.drop (l.length - 24) = [44, 32, d1, d2, 45, m1, m2, m3, 45, y1, y2, 32, a, b, 58, c, z, 58, f, g, 32, 71, 77, 84] := by
    rw [show l.length - 24 = p.length by omega, e]; simp
  have hg : ∀ k j, k = p.length + j → l.getD k 0 = ([44, 32, d1, d2, 45, m1, m2, m3, 45, y1, y2, 32, a, b, 58, c, z, 58, f, g, 32, 71, 77, 84] : List UInt8).getD j 0 := by
    intro k j hk; rw [e]; exact getD_back _ _ _ _ hk
  rw [hdr]
  refine ⟨by omega, ⟨(loose2 y1 y2).trans qy, qm.trans (by omega), (loose2 d1 d2).trans qd, ?_⟩, ?_, ?_, ?_⟩
  · show loose [a, b] * 3600 + loose [c, z] * 60 + loose [f, g] = _
    rw [loose2, loose2, loose2]; omega
  · rw [tw_yes (k := l.length - 15) (hg _ 9 (by omega)) (hg _ 10 (by omega)) r1 r2]; exact qy
  · rw [tw_yes (k := l.length - 22) (hg _ 2 (by omega)) (hg _ 3 (by omega)) qd1 qd2]; exact qd
  · unfold clt; rw [tw_yes (k := l.length - 12) (hg _ 12 (by omega)) (hg _ 13 (by omega)) s1 s2, tw_yes (k := l.length - 12 + 3) (hg _ 15 (by omega)) (hg _ 16 (by omega)) s3 s4, tw_yes (k := l.length - 12 + 6) (hg _ 18 (by omega)) (hg _ 19 (by omega)) s5 s6]; show 3600 * (10 * lz a + lz b) + 60 * (10 * lz c + lz z) + (10 * lz f + lz g) = _; omega
theorem cv_bd {day y m d : Int} (h : CV day y m d) : 1970 ≤ y ∧ y ≤ 2099 ∧ 1 ≤ m ∧ m ≤ 12 ∧ 1 ≤ d ∧ d ≤ 31 := by
  obtain ⟨a, b, c, e, f, g, _⟩ := h
  have := dim_bd y m c e
  exact ⟨a, b, c, e, f, by omega⟩
theorem dof_pos {y m d : Int} (h : ¬ dof y m d < 0) : CV (dof y m d) y m d := by
  unfold dof at h ⊢
  split at h
  · rename_i q
    rw [if_pos q]
    exact ⟨q.1, q.2.1, q.2.2.1, q.2.2.2.1, q.2.2.2.2.1, q.2.2.2.2.2, rfl⟩
  · omega
theorem dof_bd (y m d : Int) : -1 ≤ dof y m d ∧ dof y m d ≤ 47481 := by
  by_cases h : dof y m d < 0
  · unfold dof at h ⊢
    split
    · rename_i q
      have := dby_bd (y - 1970).toNat
      have := cum_bd y (m - 1).toNat (by omega)
      rw [if_pos q] at h
      omega
    · omega
  · have hc := dof_pos h
    have h1 := cv_rest hc
    have h2 := dby_mono (a := (y - 1970 + 1).toNat) (b := 130) (by have := hc.2.1; omega)
    rw [dby_all] at h2
    omega
end Go.Proofs.YtidmppphlcfpjaaGreatDoor.Dt
