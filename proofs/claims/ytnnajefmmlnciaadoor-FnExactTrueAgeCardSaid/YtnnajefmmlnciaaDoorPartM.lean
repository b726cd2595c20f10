/-
  CONTRACTS AND PLAIN FACTS, several texts in one; each says in its own words what it proves.
-/
import Derived.Test.YtnnajefmmlnciaaDoorPartK
import Derived.Test.YtnnajefmmlnciaaDoorPartJ
import Derived.Test.YtnnajefmmlnciaaDoorPartA
import Derived.Test.YtnnajefmmlnciaaDoorPartL
import Derived.LoopTactic
import Derived.Test.YtnnajefmmlnciaaDoorPartE
import Derived.Test.YtnnajefmmlnciaaDoorPartH
import Derived.Deep.QuietTactic
import Derived.BigQuiet

/-
  CONTRACTS of the model's l3Long, DaysOf and CivilOf: each returns what the calendar says; nothing that was there before is changed.
-/
namespace Go.Proofs.YtnnajefmmlnciaaDoor.Dt
open Go Go.RowKit
set_option linter.unusedVariables false
set_option maxRecDepth 1000000

theorem mlit (w : World) {k : Nat} (hk : k < 12) : (w.alloc (.cells #[.int .i64 31, .int .i64 28, .int .i64 31, .int .i64 30, .int .i64 31, .int .i64 30, .int .i64 31, .int .i64 31, .int .i64 30, .int .i64 31, .int .i64 30, .int .i64 31] 3)).cell? ⟨w.heap.size, k, none⟩ = some (.int .i64 (mdt k)) := by
  rw [World.cell?_alloc_new]
  have : ∀ k : Fin 12, (#[Value.int .i64 31, .int .i64 28, .int .i64 31, .int .i64 30, .int .i64 31, .int .i64 30, .int .i64 31, .int .i64 31, .int .i64 30, .int .i64 31, .int .i64 30, .int .i64 31] : Array Value)[k.1]? = some (.int .i64 (mdt k.1)) := by
    intro k
    match k with
    | ⟨0, _⟩ => rfl
    | ⟨1, _⟩ => rfl
    | ⟨2, _⟩ => rfl
    | ⟨3, _⟩ => rfl
    | ⟨4, _⟩ => rfl
    | ⟨5, _⟩ => rfl
    | ⟨6, _⟩ => rfl
    | ⟨7, _⟩ => rfl
    | ⟨8, _⟩ => rfl
    | ⟨9, _⟩ => rfl
    | ⟨10, _⟩ => rfl
    | ⟨11, _⟩ => rfl
  exact this ⟨k, hk⟩

set_option maxHeartbeats 1000000 in
theorem month_s (y : Int) (k : Nat) (w : World) (wy : (Lit.int .i64 y).wf = true) (hk : k ≤ 11) :
    Calls Tryd.prog 29 #[.int .i64 y, .int .i64 ((k : Int) + 1)] w (Num (dim y (k + 1)) w) := by
  have c1 := spec_leap y w wy
  have hc := mlit w (k := k) (by omega)
  have hd : dim y (k + 1) = if k = 1 ∧ lpB y = true then 29 else mdt k := by
    unfold dim
    rw [show ((k : Int) + 1 - 1).toNat = k by omega]
    by_cases h : k = 1
    · simp [h]
    · rw [if_neg (by omega), if_neg (by simp [h])]
  rw [hd]
  clear hd
  generalize mdt k = v at *
  by_cases h2 : k = 1
  · have k2 : ((k : Int) + 1 == 2) = true := b_yes (by omega)
    have H2 := Lib.hid h2
    cases hl : lpB y with
    | true =>
      rw [if_pos ⟨h2, rfl⟩]
      rw [hl] at c1
      clear hl h2
      go_enter Tryd.func29, Tryd.ntmps29
      go_wp2_with (go_at_call 30; refine c1.mono ?_; rintro e w' ⟨rfl, rfl⟩)
      go_ret
      exact ⟨rfl, Below.refl _ _⟩
    | false =>
      rw [if_neg (by simp)]
      rw [hl] at c1
      clear hl h2
      go_enter Tryd.func29, Tryd.ntmps29
      go_wp2_with (go_at_call 30; refine c1.mono ?_; rintro e w' ⟨rfl, rfl⟩)
      go_ret
      exact ⟨rfl, (Below.refl _ _).alloc (Nat.le_refl _) _⟩
  · have k2 : ((k : Int) + 1 == 2) = false := b_no (by omega)
    rw [if_neg (by simp [h2])]
    clear h2 c1
    go_enter Tryd.func29, Tryd.ntmps29
    go_wp2
    go_ret
    exact ⟨rfl, (Below.refl _ _).alloc (Nat.le_refl _) _⟩

set_option maxHeartbeats 2000000 in
theorem days_in_s (N K : Nat) (d : Int) (w : World) (hN : N ≤ 129) (hK : K ≤ 11) (hd1 : 1 ≤ d) (hd2 : d ≤ dim (1970 + N) (K + 1)) :
    Calls Tryd.prog 21 #[.int .i64 (1970 + (N : Int)), .int .i64 ((K : Int) + 1), .int .i64 d] w (Num (d - 1 + dby N + cum (1970 + N) K) w) := by
  have cm := month_s (1970 + N) K w (Go.WalkArith.wf_i64 ⟨by omega, by omega⟩) hK
  have hd3 : d ≤ 31 := by have := dim_bd (1970 + N) (K + 1) (by omega) (by omega); omega
  have HD := Lib.hid hd2
  generalize hdim : dim (1970 + (N : Int)) ((K : Int) + 1) = dm at cm HD
  clear hdim hd2
  unfold Num at cm
  go_enter Tryd.func21, Tryd.ntmps21
  go_wp2_with (fail)
  go_at_call 20
  refine (NumDiv.in_yes _ _ _ _ (by omega) (by omega)).mono ?_
  rintro e w' ⟨rfl, rfl⟩
  go_wp2_with (fail)
  go_at_call 20
  refine (NumDiv.in_yes _ _ _ _ (by omega) (by omega)).mono ?_
  rintro e w' ⟨rfl, rfl⟩
  go_wp2_with (fail)
  go_at_call 29
  refine cm.mono ?_
  rintro e w1 ⟨rfl, hb1⟩
  have HB := Lib.hid hb1
  clear hb1 cm
  go_wp2_with (fail)
  go_at_call 20
  refine (NumDiv.in_yes _ _ _ _ hd1 HD.out).mono ?_
  rintro e w' ⟨rfl, rfl⟩
  go_wp2
  go_loopw [7, 8] (fun s yr wr => ∃ n : Nat, n ≤ N ∧ yr = .int .i64 (1970 + (n : Int)) ∧ s = .int .i64 (d - 1 + dby n) ∧ Below w.heap.size w wr) (fun _ yr _ => (1970 + N) - (intOf yr).toNat)
  case atStart => exact ⟨0, Nat.zero_le _, rfl, by simp [dby], HB.out⟩
  case round =>
    clear HB
    obtain ⟨n, hn, rfl, rfl, hb⟩ := hrel
    have hdb := dby_bd n
    obtain ⟨db1, db2⟩ := hdb
    have db3 : 0 ≤ dby n := by omega
    have db4 : dby n ≤ 50000 := by omega
    by_cases hlt : n < N
    · have HS : Hid (dby (n + 1) = dby n + yl (1970 + n)) := Lib.hid rfl
      have cy := spec_leap (1970 + n) wr (Go.WalkArith.wf_i64 ⟨by omega, by omega⟩)
      have HB := Lib.hid hb
      clear hb db1 db2
      generalize dby n = s at *
      unfold yl at HS
      cases hl : lpB (1970 + (n : Int))
      all_goals
        rw [hl] at cy HS
        simp only [Bool.false_eq_true, if_false, if_true] at HS
        clear hl
        go_wp2_with (go_at_call 30; refine cy.mono ?_; rintro e w2 ⟨rfl, rfl⟩)
        go_roundw
        case rel => exact ⟨n + 1, by omega, by go_num, by rw [HS.out]; congr 1; omega, HB.out⟩
        case measure => simp [intOf]; omega
    · obtain rfl : n = N := by omega
      have HB := Lib.hid hb
      clear hb db1 db2
      generalize dby n = s at *
      go_wp2
      go_loopw [7, 9] (fun t mo wr => ∃ k : Nat, k ≤ K ∧ mo = .int .i64 ((k : Int) + 1) ∧ t = .int .i64 (d - 1 + s + cum (1970 + n) k) ∧ Below w.heap.size w wr) (fun _ mo _ => (K + 1) - (intOf mo).toNat)
      case atStart => exact ⟨0, Nat.zero_le _, rfl, by simp [cum], HB.out⟩
      case round =>
        clear HB
        obtain ⟨k, hk, rfl, rfl, hb⟩ := hrel
        have hcb := cum_bd (1970 + n) k (by omega)
        obtain ⟨cb1, cb2⟩ := hcb
        have cb3 : 0 ≤ cum (1970 + n) k := by omega
        have cb4 : cum (1970 + n) k ≤ 372 := by omega
        by_cases hlt2 : k < K
        · have hdm := dim_bd (1970 + n) (k + 1) (by omega) (by omega)
          obtain ⟨v1, v2⟩ := hdm
          have HS : Hid (cum (1970 + n) (k + 1) = cum (1970 + n) k + dim (1970 + n) (k + 1)) := Lib.hid rfl
          have cm := month_s (1970 + n) k wr (Go.WalkArith.wf_i64 ⟨by omega, by omega⟩) (by omega)
          unfold Num at cm
          have HB := Lib.hid hb
          clear hb cb1 cb2
          generalize cum (1970 + (n : Int)) k = c at *
          generalize dim (1970 + (n : Int)) ((k : Int) + 1) = v at *
          go_wp2_with (go_at_call 29; refine cm.mono ?_; rintro e w2 ⟨rfl, hb2⟩)
          go_roundw
          case rel => exact ⟨k + 1, by omega, by go_num, by rw [HS.out]; congr 1; omega, Base.then_below HB.out hb2⟩
          case measure => simp [intOf]; omega
        · obtain rfl : k = K := by omega
          have HB := Lib.hid hb
          clear hb cb1 cb2
          generalize cum (1970 + (n : Int)) k = c at *
          go_wp2
          go_ret
          exact num_ret (by omega) HB.out

set_option maxHeartbeats 2000000 in
theorem spec_days (y m d : Int) (w : World) (wy : (Lit.int .i64 y).wf = true) :
    Calls Tryd.prog 21 #[.int .i64 y, .int .i64 m, .int .i64 d] w (Num (dof y m d) w) := by
  by_cases h1 : y < 1970 ∨ 2099 < y
  · rw [dof_out (by omega)]
    have H1 := Lib.hid h1
    clear h1
    go_enter Tryd.func21, Tryd.ntmps21
    go_wp2_with (go_at_call 20; refine (NumDiv.in_no _ _ _ _ H1.out).mono ?_; rintro e w' ⟨rfl, rfl⟩)
    go_ret
    exact ⟨rfl, Below.refl _ _⟩
  have h1a : 1970 ≤ y := by omega
  have h1b : y ≤ 2099 := by omega
  clear h1
  by_cases h3 : m < 1 ∨ 12 < m
  · rw [dof_out (by omega)]
    have H3 := Lib.hid h3
    clear h3
    go_enter Tryd.func21, Tryd.ntmps21
    go_wp2_with (fail)
    go_at_call 20
    refine (NumDiv.in_yes _ _ _ _ h1a h1b).mono ?_
    rintro e w' ⟨rfl, rfl⟩
    go_wp2_with (fail)
    go_at_call 20
    refine (NumDiv.in_no _ _ _ _ H3.out).mono ?_
    rintro e w' ⟨rfl, rfl⟩
    go_wp2
    go_ret
    exact ⟨rfl, Below.refl _ _⟩
  obtain ⟨N, rfl⟩ : ∃ N : Nat, y = 1970 + (N : Int) := ⟨(y - 1970).toNat, by omega⟩
  obtain ⟨K, rfl⟩ : ∃ K : Nat, m = (K : Int) + 1 := ⟨(m - 1).toNat, by omega⟩
  by_cases h6 : d < 1 ∨ dim (1970 + N) (K + 1) < d
  · rw [dof_out (by omega)]
    have cm := month_s (1970 + N) K w (Go.WalkArith.wf_i64 ⟨by omega, by omega⟩) (by omega)
    unfold Num at cm
    have H6 := Lib.hid h6
    have H3 := Lib.hid h3
    generalize dim (1970 + (N : Int)) ((K : Int) + 1) = v at *
    clear wy h6 h3
    go_enter Tryd.func21, Tryd.ntmps21
    go_wp2_with (fail)
    go_at_call 20
    refine (NumDiv.in_yes _ _ _ _ (by omega) (by omega)).mono ?_
    rintro e w' ⟨rfl, rfl⟩
    go_wp2_with (fail)
    go_at_call 20
    refine (NumDiv.in_yes _ _ _ _ (by omega) (by have := H3.out; omega)).mono ?_
    rintro e w' ⟨rfl, rfl⟩
    go_wp2_with (fail)
    go_at_call 29
    refine cm.mono ?_
    rintro e w1 ⟨rfl, hb1⟩
    have HB := Lib.hid hb1
    clear hb1 cm
    go_wp2_with (fail)
    go_at_call 20
    refine (NumDiv.in_no _ _ _ _ H6.out).mono ?_
    rintro e w' ⟨rfl, rfl⟩
    go_wp2
    go_ret
    exact ⟨rfl, HB.out⟩
  · have e : dof (1970 + N) (K + 1) d = d - 1 + dby N + cum (1970 + N) K := by
      unfold dof
      rw [if_pos (by omega), show (1970 + (N : Int) - 1970).toNat = N by omega, show ((K : Int) + 1 - 1).toNat = K by omega]
    rw [e]
    exact days_in_s N K d w (by omega) (by omega) (by omega) (by omega)

set_option maxHeartbeats 2000000 in
theorem spec_civ (day : Int) (w : World) (h0 : 0 ≤ day) (h1 : day ≤ 47481) :
    Calls Tryd.prog 31 #[.int .i64 day] w (Civ day w) := by
  go_enter Tryd.func31, Tryd.ntmps31
  go_wp2_with (fail)
  go_at_call 20
  refine (NumDiv.in_yes _ _ _ _ h0 h1).mono ?_
  rintro e w' ⟨rfl, rfl⟩
  go_wp2
  go_loopw [0, 5] (fun t yr wr => ∃ n : Nat, n ≤ 129 ∧ yr = .int .i64 (1970 + (n : Int)) ∧ 0 ≤ day - dby n ∧ t = .int .i64 (day - dby n) ∧ Below w.heap.size w wr) (fun t _ _ => (intOf t).toNat)
  case atStart => exact ⟨0, by omega, rfl, by simp [dby]; omega, by simp [dby], Below.refl _ _⟩
  case round =>
    obtain ⟨n, hn, rfl, hp, rfl, hb⟩ := hrel
    have hdb := dby_bd n
    obtain ⟨db1, db2⟩ := hdb
    have db3 : 0 ≤ dby n := by omega
    have db4 : dby n ≤ 50000 := by omega
    have HS : Hid (dby (n + 1) = dby n + yl (1970 + n)) := Lib.hid rfl
    have cy := spec_leap (1970 + n) wr (Go.WalkArith.wf_i64 ⟨by omega, by omega⟩)
    have HY := Lib.hid (fun h => year_more (n := n) h1 h)
    have HC : Hid (¬ yl (1970 + n) ≤ day - dby n → ∀ k : Nat, k ≤ 11 → dim (1970 + (n : Int)) (k + 1) ≤ day - dby n - cum (1970 + n) k → k + 1 ≤ 11) := Lib.hid (fun hge k hk h => month_more hk (show day - dby n < yl (1970 + n) by omega) h)
    have HV : Hid (∀ k : Nat, k ≤ 11 → 0 ≤ day - dby n - cum (1970 + n) k → day - dby n - cum (1970 + n) k < dim (1970 + n) (k + 1) → CV day (1970 + n) (k + 1) (day - dby n - cum (1970 + n) k + 1)) := Lib.hid (fun k hk a b => cv_mk hn hk a b)
    have HB := Lib.hid hb
    clear hb db1 db2
    generalize dby n = s at *
    unfold yl at HS HY HC
    cases hl : lpB (1970 + (n : Int))
    all_goals
      rw [hl] at cy HS HY HC
      simp only [Bool.false_eq_true, if_false, if_true] at HS HY HC
      clear hl
    · by_cases hge : 365 ≤ day - s
      · have hn1 := HY.out hge
        go_wp2_with (go_at_call 30; refine cy.mono ?_; rintro e w2 ⟨rfl, rfl⟩)
        go_roundw
        case rel => exact ⟨n + 1, by omega, by go_num, by rw [HS.out]; omega, by rw [HS.out]; congr 1; omega, HB.out⟩
        case measure => simp [intOf]; omega
      · have HC2 := Lib.hid (HC.out hge)
        clear HC
        have hlt : day - s < 365 := by omega
        clear hge HY HS
        go_wp2_with (go_at_call 30; refine cy.mono ?_; rintro e w2 ⟨rfl, rfl⟩)
        go_loopw [0, 7] (fun t mo wr => ∃ k : Nat, k ≤ 11 ∧ mo = .int .i64 ((k : Int) + 1) ∧ 0 ≤ day - s - cum (1970 + n) k ∧ t = .int .i64 (day - s - cum (1970 + n) k) ∧ Below w.heap.size w wr) (fun t _ _ => (intOf t).toNat)
        case atStart => exact ⟨0, by omega, rfl, by simp [cum]; omega, by simp [cum], HB.out⟩
        case round =>
          clear HB
          obtain ⟨k, hk, rfl, hp2, rfl, hb⟩ := hrel
          have hcb := cum_bd (1970 + n) k (by omega)
          obtain ⟨cb1, cb2⟩ := hcb
          have cb3 : 0 ≤ cum (1970 + n) k := by omega
          have cb4 : cum (1970 + n) k ≤ 372 := by omega
          have hdm := dim_bd (1970 + n) (k + 1) (by omega) (by omega)
          obtain ⟨v1, v2⟩ := hdm
          have HS : Hid (cum (1970 + n) (k + 1) = cum (1970 + n) k + dim (1970 + n) (k + 1)) := Lib.hid rfl
          have cm := fun W => month_s (1970 + n) k W (Go.WalkArith.wf_i64 ⟨by omega, by omega⟩) (by omega)
          unfold Num at cm
          have HB := Lib.hid hb
          have HK := Lib.hid (HC2.out k hk)
          have HW := Lib.hid (HV.out k hk)
          clear hb cb1 cb2
          generalize cum (1970 + (n : Int)) k = c at *
          generalize dim (1970 + (n : Int)) ((k : Int) + 1) = v at *
          by_cases hge2 : v ≤ day - s - c
          · have hk1 := HK.out hge2
            go_wp2_with (fail)
            go_at_call 29
            refine (cm _).mono ?_
            rintro e w3 ⟨rfl, hb3⟩
            have HB3 := Lib.hid (Base.then_below HB.out hb3)
            clear hb3
            go_wp2_with (fail)
            go_at_call 29
            refine (cm _).mono ?_
            rintro e w4 ⟨rfl, hb4⟩
            have HB4 := Lib.hid (Base.then_below HB3.out hb4)
            clear hb4
            go_wp2
            go_roundw
            case rel => exact ⟨k + 1, hk1, by go_num, by rw [HS.out]; omega, by rw [HS.out]; congr 1; omega, HB4.out⟩
            case measure => simp [intOf]; omega
          · have hlt2 : day - s - c < v := by omega
            go_wp2_with (fail)
            go_at_call 29
            refine (cm _).mono ?_
            rintro e w3 ⟨rfl, hb3⟩
            have HB3 := Lib.hid (Base.then_below HB.out hb3)
            clear hb3
            go_wp2
            go_ret3
            exact ⟨_, _, _, HW.out hp2 hlt2, rfl, HB3.out⟩
    · by_cases hge : 366 ≤ day - s
      · have hn1 := HY.out hge
        go_wp2_with (go_at_call 30; refine cy.mono ?_; rintro e w2 ⟨rfl, rfl⟩)
        go_roundw
        case rel => exact ⟨n + 1, by omega, by go_num, by rw [HS.out]; omega, by rw [HS.out]; congr 1; omega, HB.out⟩
        case measure => simp [intOf]; omega
      · have HC2 := Lib.hid (HC.out hge)
        clear HC
        have hlt : day - s < 366 := by omega
        clear hge HY HS
        go_wp2_with (go_at_call 30; refine cy.mono ?_; rintro e w2 ⟨rfl, rfl⟩)
        go_loopw [0, 7] (fun t mo wr => ∃ k : Nat, k ≤ 11 ∧ mo = .int .i64 ((k : Int) + 1) ∧ 0 ≤ day - s - cum (1970 + n) k ∧ t = .int .i64 (day - s - cum (1970 + n) k) ∧ Below w.heap.size w wr) (fun t _ _ => (intOf t).toNat)
        case atStart => exact ⟨0, by omega, rfl, by simp [cum]; omega, by simp [cum], HB.out⟩
        case round =>
          clear HB
          obtain ⟨k, hk, rfl, hp2, rfl, hb⟩ := hrel
          have hcb := cum_bd (1970 + n) k (by omega)
          obtain ⟨cb1, cb2⟩ := hcb
          have cb3 : 0 ≤ cum (1970 + n) k := by omega
          have cb4 : cum (1970 + n) k ≤ 372 := by omega
          have hdm := dim_bd (1970 + n) (k + 1) (by omega) (by omega)
          obtain ⟨v1, v2⟩ := hdm
          have HS : Hid (cum (1970 + n) (k + 1) = cum (1970 + n) k + dim (1970 + n) (k + 1)) := Lib.hid rfl
          have cm := fun W => month_s (1970 + n) k W (Go.WalkArith.wf_i64 ⟨by omega, by omega⟩) (by omega)
          unfold Num at cm
          have HB := Lib.hid hb
          have HK := Lib.hid (HC2.out k hk)
          have HW := Lib.hid (HV.out k hk)
          clear hb cb1 cb2
          generalize cum (1970 + (n : Int)) k = c at *
          generalize dim (1970 + (n : Int)) ((k : Int) + 1) = v at *
          by_cases hge2 : v ≤ day - s - c
          · have hk1 := HK.out hge2
            go_wp2_with (fail)
            go_at_call 29
            refine (cm _).mono ?_
            rintro e w3 ⟨rfl, hb3⟩
            have HB3 := Lib.hid (Base.then_below HB.out hb3)
            clear hb3
            go_wp2_with (fail)
            go_at_call 29
            refine (cm _).mono ?_
            rintro e w4 ⟨rfl, hb4⟩
            have HB4 := Lib.hid (Base.then_below HB3.out hb4)
            clear hb4
            go_wp2
            go_roundw
            case rel => exact ⟨k + 1, hk1, by go_num, by rw [HS.out]; omega, by rw [HS.out]; congr 1; omega, HB4.out⟩
            case measure => simp [intOf]; omega
          · have hlt2 : day - s - c < v := by omega
            go_wp2_with (fail)
            go_at_call 29
            refine (cm _).mono ?_
            rintro e w3 ⟨rfl, hb3⟩
            have HB3 := Lib.hid (Base.then_below HB.out hb3)
            clear hb3
            go_wp2
            go_ret3
            exact ⟨_, _, _, HW.out hp2 hlt2, rfl, HB3.out⟩

theorem spec_civ_out (day : Int) (w : World) (h : day < 0 ∨ 47481 < day) :
    Calls Tryd.prog 31 #[.int .i64 day] w fun e w' => e = .returned (.tuple #[.int .i64 0, .int .i64 0, .int .i64 0]) ∧ Below w.heap.size w w' := by
  have H := Lib.hid h
  clear h
  go_enter Tryd.func31, Tryd.ntmps31
  go_wp2_with (go_at_call 20; refine (NumDiv.in_no _ _ _ _ H.out).mono ?_; rintro e w' ⟨rfl, rfl⟩)
  go_ret3
  exact ⟨rfl, Below.refl _ _⟩
end Go.Proofs.YtnnajefmmlnciaaDoor.Dt

/-
  CONTRACT of the model's WeekdayOf: at every integer of 64 bits it returns the weekday; the world stays as it was.
-/
namespace Go.Proofs.YtnnajefmmlnciaaDoor.Dt
open Go Go.RowKit
set_option linter.unusedVariables false
set_option maxRecDepth 1000000

theorem spec_week (d : Int) (w : World) (wd : (Lit.int .i64 d).wf = true) :
    Calls Tryd.prog 33 #[.int .i64 d] w fun e w' => e = .returned (.int .i64 ((d % 7 + 4) % 7)) ∧ w = w' := by
  have c1 := mod_s d 7 w wd (by omega) (by omega)
  have h0 : 0 ≤ d % 7 := by omega
  have h1 : d % 7 ≤ 6 := by omega
  generalize d % 7 = a at *
  have c2 := mod_s (a + 4) 7 w (Go.WalkArith.wf_i64 ⟨by omega, by omega⟩) (by omega) (by omega)
  generalize (a + 4) % 7 = b at *
  go_enter Tryd.func33, Tryd.ntmps33
  go_wp2_with (fail)
  go_at_call 44
  refine c1.mono ?_
  rintro e w' ⟨rfl, rfl⟩
  go_wp2_with (fail)
  go_at_call 44
  refine c2.mono ?_
  rintro e w' ⟨rfl, rfl⟩
  go_wp2
  go_ret
  exact ⟨rfl, rfl⟩
end Go.Proofs.YtnnajefmmlnciaaDoor.Dt

/-
  CONTRACT of the model's Digits: at every two integers of 64 bits it returns the digits that are asked for; nothing that was there before is changed.
-/
namespace Go.Proofs.YtnnajefmmlnciaaDoor.Dig
open Go Go.RowKit
set_option linter.unusedVariables false
set_option maxRecDepth 1000000

theorem spec_max0 (n : Int) (w : World) :
    Calls Tryd.prog 12 #[.int .i64 0, .int .i64 n] w fun e w' => e = .returned (.int .i64 (mx n)) ∧ w = w' := by
  by_cases h : 0 < n
  · have e : mx n = n := by unfold mx; rw [if_neg (by omega)]
    rw [e]; clear e
    go_enter Tryd.func12, Tryd.ntmps12
    go_wp2
    go_ret
    exact ⟨rfl, rfl⟩
  · have e : mx n = 0 := by unfold mx; split <;> omega
    rw [e]; clear e
    go_enter Tryd.func12, Tryd.ntmps12
    go_wp2
    go_ret
    exact ⟨rfl, rfl⟩

set_option maxHeartbeats 400000 in
theorem spec_digits (n width : Int) (w : World) (h1 : n ≤ 9223372036854775807) :
    Calls Tryd.prog 34 #[.int .i64 n, .int .i64 width] w fun e w' => e = .returned (.string ⟨(digs n width).toArray⟩) ∧ Below w.heap.size w w' := by
  obtain ⟨b0, b1⟩ := mx_bd h1
  have hl := Fmt.itoa_len (n := mx n) (by omega) b1
  obtain ⟨hm1, hm2, hm3⟩ := mn_bd width
  have HL := Lib.hid hl.2
  have HM := Lib.hid hm3
  clear hl hm3
  go_enter Tryd.func34, Tryd.ntmps34
  go_wp2_with (first | (go_at_call 12; refine (spec_max0 n _).mono ?_; rintro e w' ⟨rfl, rfl⟩) | (go_at_call 36; refine (Fmt.spec_fmt (mx n) (by omega) b1 _).mono ?_; rintro e w1 ⟨rfl, hb1⟩))
  go_loop [5] (fun s => ∃ l : List UInt8, s = .string ⟨l.toArray⟩ ∧ l.length ≤ 20 ∧ zpad l (mn width).toNat = digs n width) (fun s => 20 - strLen s)
  case atStart => exact ⟨_, rfl, HL.out, rfl⟩
  case round =>
    obtain ⟨l, rfl, hll, hz⟩ := hrel
    have HZ := Lib.hid hz
    clear hz
    have hadd := Fmt.addone 48 l (by omega)
    by_cases ha : (l.length : Int) < width
    · by_cases hb : (l.length : Int) < 20
      · have HS := Lib.hid ((zpad_step (l := l) (k := (mn width).toNat) (by have := HM.out; omega)).trans HZ.out)
        go_wp2
        go_round
        case rel => exact ⟨48 :: l, rfl, by simp; omega, HS.out⟩
        case measure => simp [strLen, ByteArray.size]; omega
      · have HE := Lib.hid ((zpad_done (l := l) (k := (mn width).toNat) (by have := HM.out; omega)).symm.trans HZ.out)
        go_wp2
        go_ret
        exact ⟨Fmt.ret_str HE.out, hb1⟩
    · have HE := Lib.hid ((zpad_done (l := l) (k := (mn width).toNat) (by have := HM.out; omega)).symm.trans HZ.out)
      go_wp2
      go_ret
      exact ⟨Fmt.ret_str HE.out, hb1⟩
end Go.Proofs.YtnnajefmmlnciaaDoor.Dig

/-
  CONTRACT of strings.Cut at a separator of one byte: what stands before the first such byte, what stands behind it, and whether there is one; nothing that was there before is changed.
-/
namespace Go.Proofs.YtnnajefmmlnciaaDoor.Tx
open Go Go.RowKit
set_option linter.unusedVariables false
set_option maxRecDepth 1000000

theorem indexByte_idx (c : UInt8) (l : List UInt8) : Lib.indexByte l c = if idx c l < l.length then (idx c l : Int) else -1 := by
  induction l with
  | nil => simp [Lib.indexByte, idx]
  | cons a r ih =>
    unfold Lib.indexByte idx
    by_cases h : a == c
    · rw [if_pos h, if_pos h, if_pos (by simp)]; rfl
    · rw [if_neg h, if_neg h, ih]
      by_cases hl : idx c r < r.length
      · have hn : ((idx c r : Int) == -1) = false := by rw [beq_eq_false_iff_ne]; omega
        rw [if_pos hl, hn, if_neg (by simp), if_pos (by simp; omega)]; omega
      · rw [if_neg hl, if_pos (by decide), if_neg (by simp; omega)]
/-- How a cut ends. -/
def CutEnd (c : UInt8) (l : List UInt8) (w : World) (e : Ending) (w' : World) : Prop :=
  e = .returned (.tuple #[.string ⟨(cutAt c l).1.toArray⟩, .string ⟨(cutAt c l).2.1.toArray⟩, .bool (cutAt c l).2.2]) ∧ Below w.heap.size w w'
theorem below_drewN' {B : Nat} {a w : World} (h : Below B a w) (n : Nat) : Below B a (w.drewN n) := ⟨h.os, h.tape, h.output, h.size, h.block⟩
theorem ext_eq (s : ByteArray) (a b : Nat) : s.extract a b = ⟨((s.data.toList.drop a).take (b - a)).toArray⟩ := by
  apply ByteArray.ext
  rw [ByteArray.data_extract]
  apply Array.ext'
  simp
theorem cut_hit {s : ByteArray} {c : UInt8} {w w' : World} {i : Nat} (hi : i = idx c s.data.toList) (h : i < s.size) (hb : Below w.heap.size w w') :
    CutEnd c s.data.toList w (.returned (.tuple #[.string (s.extract 0 i), .string (s.extract (i + 1) s.size), .bool true])) w' := by
  have hl : s.data.toList.length = s.size := by rw [Array.length_toList]; rfl
  have e : cutAt c s.data.toList = (s.data.toList.take i, s.data.toList.drop (i + 1), true) := by
    unfold cutAt; rw [← hi, hl, if_pos h]
  unfold CutEnd
  rw [e, ext_eq, ext_eq]
  refine ⟨?_, hb⟩
  have h2 : (s.data.toList.drop (i + 1)).take (s.size - (i + 1)) = s.data.toList.drop (i + 1) := List.take_of_length_le (by rw [List.length_drop, hl]; omega)
  rw [h2, List.drop_zero, Nat.sub_zero]
theorem cut_miss {s : ByteArray} {c : UInt8} {w w' : World} (h : ¬ idx c s.data.toList < s.size) (hb : Below w.heap.size w w') :
    CutEnd c s.data.toList w (.returned (.tuple #[.string s, .string ⟨#[]⟩, .bool false])) w' := by
  have hl : s.data.toList.length = s.size := by rw [Array.length_toList]; rfl
  have e : cutAt c s.data.toList = (s.data.toList, [], false) := by
    unfold cutAt; rw [hl, if_neg h]
  unfold CutEnd
  rw [e]
  exact ⟨by simp, hb⟩

end Go.Proofs.YtnnajefmmlnciaaDoor.Tx
