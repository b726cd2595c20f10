/-
  CONTRACTS AND PLAIN FACTS, several texts in one; each says in its own words what it proves.
-/
import Derived.Test.YtilephkbcikfbaaDoorPartF
import Derived.Test.YtilephkbcikfbaaDoorPartA
import Derived.LoopTactic
import Derived.Lib.LaidTab
set_option linter.unusedSimpArgs false
set_option linter.unusedVariables false

/-
  CONTRACTS of the program's daysOfYear, daysOfMonth, DaysOf and CivilOf, where its table of months reads as it is written: each returns what the calendar says; nothing that was there before is changed.
-/
namespace Go.Proofs.YtilephkbcikfbaaDoor.Dt
open Go Go.RowKit
set_option linter.unusedVariables false
set_option maxRecDepth 1000000

theorem cell_of_var {P : Program} {w : World} {name : String} {g : Nat} {cs : Array Value} (hg : P.globalNamed name = some g) (h : w.var? P name = some cs) (k : Nat) : w.cell? ⟨g, k, none⟩ = cs[k]? := by
  unfold World.var? at h
  rw [hg] at h
  simp only [Option.bind_some] at h
  unfold World.cell?
  split at h
  · rename_i cs' t fr hh
    injection h with h; subst h
    simp [hh]
  · cases h
theorem var_lt {P : Program} {w : World} {name : String} {g : Nat} {cs : Array Value} (hg : P.globalNamed name = some g) (h : w.var? P name = some cs) : g < w.heap.size := by
  unfold World.var? at h
  rw [hg] at h
  simp only [Option.bind_some] at h
  rcases Nat.lt_or_ge g w.heap.size with h' | h'
  · exact h'
  · rw [Array.getElem?_eq_none h'] at h; simp at h
/-- The program's table of months, as it is written. -/
def Mds (w : World) : Prop := Lib.TabIs Tryd.prog w "loop.example/g03012/impl.monthDays" .i64 mdays
theorem mds_below {W w1 : World} (h : Mds W) (hb : Below W.heap.size W w1) : Mds w1 := Base.var_below h hb
theorem mds_cell {w : World} (h : Mds w) {k : Nat} (hk : k < 12) : w.cell? ⟨2, k, none⟩ = some (.int .i64 (mdt k)) := by
  rw [cell_of_var (show Tryd.prog.globalNamed "loop.example/g03012/impl.monthDays" = some 2 by kernel_rfl) h]
  have hl : k < mdays.length := hk
  simp [mdt, List.getD, hl]

def Num (z : Int) (w : World) (e : Ending) (w' : World) : Prop := e = .returned (.int .i64 z) ∧ Below w.heap.size w w'
theorem num_ret {z z' : Int} {w w' : World} (h : z = z') (hb : Below w.heap.size w w') : Num z' w (.returned (.int .i64 z)) w' := ⟨by rw [h], hb⟩

theorem year_i (y : Int) (w : World) (wy : (Lit.int .i64 y).wf = true) : Calls Tryd.prog 24 #[.int .i64 y] w (Num (yl y) w) := by
  have c1 := impl_leap y w wy
  unfold yl
  cases hl : lpB y
  all_goals
    rw [hl] at c1
    simp only [Bool.false_eq_true, if_false, if_true]
    clear hl
    go_enter Tryd.func24, Tryd.ntmps24
    go_wp2_with (go_at_call 14; refine c1.mono ?_; rintro e w' ⟨rfl, rfl⟩)
    go_ret
    exact ⟨rfl, Below.refl _ _⟩

set_option maxHeartbeats 1000000 in
theorem month_i (y : Int) (k : Nat) (w : World) (wy : (Lit.int .i64 y).wf = true) (hk : k ≤ 11) (ht : Mds w) :
    Calls Tryd.prog 25 #[.int .i64 y, .int .i64 ((k : Int) + 1)] w (Num (dim y (k + 1)) w) := by
  have c1 := impl_leap y w wy
  have hc := mds_cell ht (k := k) (by omega)
  have hd : dim y (k + 1) = if k = 1 ∧ lpB y = true then 29 else mdt k := by
    unfold dim
    rw [show ((k : Int) + 1 - 1).toNat = k by omega]
    by_cases h : k = 1
    · simp [h]
    · rw [if_neg (by omega), if_neg (by simp [h])]
  rw [hd]
  clear hd
  generalize mdt k = v at *
  by_cases h2 : k = 1
  · have k2 : ((k : Int) + 1 == 2) = true := b_yes (by omega)
    have H2 := Lib.hid h2
    cases hl : lpB y with
    | true =>
      rw [if_pos ⟨h2, rfl⟩]
      rw [hl] at c1
      clear hl h2
      go_enter Tryd.func25, Tryd.ntmps25
      go_wp2_with (go_at_call 14; refine c1.mono ?_; rintro e w' ⟨rfl, rfl⟩)
      go_ret
      exact ⟨rfl, Below.refl _ _⟩
    | false =>
      rw [if_neg (by simp)]
      rw [hl] at c1
      clear hl h2
      go_enter Tryd.func25, Tryd.ntmps25
      go_wp2_with (go_at_call 14; refine c1.mono ?_; rintro e w' ⟨rfl, rfl⟩)
      go_ret
      exact ⟨rfl, Below.refl _ _⟩
  · have k2 : ((k : Int) + 1 == 2) = false := b_no (by omega)
    rw [if_neg (by simp [h2])]
    clear h2 c1
    go_enter Tryd.func25, Tryd.ntmps25
    go_wp2
    go_ret
    exact ⟨rfl, Below.refl _ _⟩

theorem dof_out {y m d : Int} (h : y < 1970 ∨ 2099 < y ∨ m < 1 ∨ 12 < m ∨ d < 1 ∨ dim y m < d) : dof y m d = -1 := by unfold dof; rw [if_neg (by omega)]

set_option maxHeartbeats 2000000 in
theorem days_in (N K : Nat) (d : Int) (w : World) (hN : N ≤ 129) (hK : K ≤ 11) (hd1 : 1 ≤ d) (hd2 : d ≤ dim (1970 + N) (K + 1)) (ht : Mds w) :
    Calls Tryd.prog 10 #[.int .i64 (1970 + (N : Int)), .int .i64 ((K : Int) + 1), .int .i64 d] w (Num (d - 1 + dby N + cum (1970 + N) K) w) := by
  have cm := month_i (1970 + N) K w (Go.WalkArith.wf_i64 ⟨by omega, by omega⟩) hK ht
  have hd3 : d ≤ 31 := by have := dim_bd (1970 + N) (K + 1) (by omega) (by omega); omega
  have hdd : ¬ dim (1970 + N) (K + 1) < d := by omega
  have HD := Lib.hid hd2
  have g1 : ¬ (1970 + (N : Int)) < 1970 := by omega
  have g2 : ¬ 2099 < (1970 + (N : Int)) := by omega
  have g3 : ¬ ((K : Int) + 1) < 1 := by omega
  have g4 : ¬ 12 < ((K : Int) + 1) := by omega
  have g5 : ¬ d < 1 := by omega
  generalize hdim : dim (1970 + (N : Int)) ((K : Int) + 1) = dm at cm hdd
  clear hdim hd2
  unfold Num at cm
  have HT := Lib.hid ht
  clear ht
  go_enter Tryd.func10, Tryd.ntmps10
  go_wp2_with (go_at_call 25; refine cm.mono ?_; rintro e w1 ⟨rfl, hb1⟩)
  have HB := Lib.hid hb1
  clear hb1 cm hdd
  go_loopw [7, 8] (fun s yr wr => ∃ n : Nat, n ≤ N ∧ yr = .int .i64 (1970 + (n : Int)) ∧ s = .int .i64 (d - 1 + dby n) ∧ Below w.heap.size w wr) (fun _ yr _ => (1970 + N) - (intOf yr).toNat)
  case atStart => exact ⟨0, Nat.zero_le _, rfl, by simp [dby], HB.out⟩
  case round =>
    clear HB
    obtain ⟨n, hn, rfl, rfl, hb⟩ := hrel
    have hdb := dby_bd n
    obtain ⟨db1, db2⟩ := hdb
    have db3 : 0 ≤ dby n := by omega
    have db4 : dby n ≤ 50000 := by omega
    by_cases hlt : n < N
    · have hyl := yl_bd (1970 + n)
      obtain ⟨u1, u2⟩ := hyl
      have HS : Hid (dby (n + 1) = dby n + yl (1970 + n)) := Lib.hid rfl
      have cy := year_i (1970 + n) wr (Go.WalkArith.wf_i64 ⟨by omega, by omega⟩)
      unfold Num at cy
      have HB := Lib.hid hb
      clear hb db1 db2
      generalize dby n = s at *
      generalize yl (1970 + (n : Int)) = u at *
      go_wp2_with (go_at_call 24; refine cy.mono ?_; rintro e w2 ⟨rfl, hb2⟩)
      go_roundw
      case rel => exact ⟨n + 1, by omega, by go_num, by rw [HS.out]; congr 1; omega, Base.then_below HB.out hb2⟩
      case measure => simp [intOf]; omega
    · obtain rfl : n = N := by omega
      have HB := Lib.hid hb
      clear hb db1 db2
      generalize dby n = s at *
      go_wp2
      go_loopw [7, 9] (fun t mo wq => ∃ k : Nat, k ≤ K ∧ mo = .int .i64 ((k : Int) + 1) ∧ t = .int .i64 (d - 1 + s + cum (1970 + n) k) ∧ Below w.heap.size w wq) (fun _ mo _ => (K + 1) - (intOf mo).toNat)
      case atStart => exact ⟨0, Nat.zero_le _, rfl, by simp [cum], HB.out⟩
      case round =>
        clear HB
        obtain ⟨k, hk, rfl, rfl, hb⟩ := hrel
        have hcb := cum_bd (1970 + n) k (by omega)
        obtain ⟨cb1, cb2⟩ := hcb
        have cb3 : 0 ≤ cum (1970 + n) k := by omega
        have cb4 : cum (1970 + n) k ≤ 372 := by omega
        by_cases hlt2 : k < K
        · have hdm := dim_bd (1970 + n) (k + 1) (by omega) (by omega)
          obtain ⟨v1, v2⟩ := hdm
          have HS : Hid (cum (1970 + n) (k + 1) = cum (1970 + n) k + dim (1970 + n) (k + 1)) := Lib.hid rfl
          have cm := month_i (1970 + n) k wr (Go.WalkArith.wf_i64 ⟨by omega, by omega⟩) (by omega) (mds_below HT.out hb)
          unfold Num at cm
          have HB := Lib.hid hb
          clear hb cb1 cb2
          generalize cum (1970 + (n : Int)) k = c at *
          generalize dim (1970 + (n : Int)) ((k : Int) + 1) = v at *
          go_wp2_with (go_at_call 25; refine cm.mono ?_; rintro e w2 ⟨rfl, hb2⟩)
          go_roundw
          case rel => exact ⟨k + 1, by omega, by go_num, by rw [HS.out]; congr 1; omega, Base.then_below HB.out hb2⟩
          case measure => simp [intOf]; omega
        · obtain rfl : k = K := by omega
          have HB := Lib.hid hb
          clear hb cb1 cb2
          generalize cum (1970 + (n : Int)) k = c at *
          go_wp2
          go_ret
          exact num_ret (by omega) HB.out

set_option maxHeartbeats 2000000 in
theorem impl_days (y m d : Int) (w : World) (wy : (Lit.int .i64 y).wf = true) (ht : Mds w) :
    Calls Tryd.prog 10 #[.int .i64 y, .int .i64 m, .int .i64 d] w (Num (dof y m d) w) := by
  by_cases h1 : y < 1970
  · rw [dof_out (Or.inl h1)]
    go_enter Tryd.func10, Tryd.ntmps10
    go_wp2
    go_ret
    exact ⟨rfl, Below.refl _ _⟩
  by_cases h2 : 2099 < y
  · rw [dof_out (Or.inr (Or.inl h2))]
    go_enter Tryd.func10, Tryd.ntmps10
    go_wp2
    go_ret
    exact ⟨rfl, Below.refl _ _⟩
  by_cases h3 : m < 1
  · rw [dof_out (Or.inr (Or.inr (Or.inl h3)))]
    go_enter Tryd.func10, Tryd.ntmps10
    go_wp2
    go_ret
    exact ⟨rfl, Below.refl _ _⟩
  by_cases h4 : 12 < m
  · rw [dof_out (Or.inr (Or.inr (Or.inr (Or.inl h4))))]
    go_enter Tryd.func10, Tryd.ntmps10
    go_wp2
    go_ret
    exact ⟨rfl, Below.refl _ _⟩
  by_cases h5 : d < 1
  · rw [dof_out (Or.inr (Or.inr (Or.inr (Or.inr (Or.inl h5)))))]
    go_enter Tryd.func10, Tryd.ntmps10
    go_wp2
    go_ret
    exact ⟨rfl, Below.refl _ _⟩
  obtain ⟨N, rfl⟩ : ∃ N : Nat, y = 1970 + (N : Int) := ⟨(y - 1970).toNat, by omega⟩
  obtain ⟨K, rfl⟩ : ∃ K : Nat, m = (K : Int) + 1 := ⟨(m - 1).toNat, by omega⟩
  by_cases h6 : dim (1970 + N) (K + 1) < d
  · rw [dof_out (Or.inr (Or.inr (Or.inr (Or.inr (Or.inr h6)))))]
    have cm := month_i (1970 + N) K w (Go.WalkArith.wf_i64 ⟨by omega, by omega⟩) (by omega) ht
    unfold Num at cm
    generalize dim (1970 + (N : Int)) ((K : Int) + 1) = v at *
    clear ht wy
    go_enter Tryd.func10, Tryd.ntmps10
    go_wp2_with (go_at_call 25; refine cm.mono ?_; rintro e w1 ⟨rfl, hb1⟩)
    go_ret
    exact ⟨rfl, hb1⟩
  · have e : dof (1970 + N) (K + 1) d = d - 1 + dby N + cum (1970 + N) K := by
      unfold dof
      rw [if_pos (by omega), show (1970 + (N : Int) - 1970).toNat = N by omega, show ((K : Int) + 1 - 1).toNat = K by omega]
    rw [e]
    exact days_in N K d w (by omega) (by omega) (by omega) (by omega) ht
end Go.Proofs.YtilephkbcikfbaaDoor.Dt

/-
  CONTRACT of the program's CivilOf, where its table of months reads as it is written: at every day from 1970 to 2099 it returns the date, at every other integer three zeros; nothing that was there before is changed.
-/
namespace Go.Proofs.YtilephkbcikfbaaDoor.Dt
open Go Go.RowKit
set_option linter.unusedVariables false
set_option maxRecDepth 1000000

/-- How CivilOf ends at a day that has a date. -/
def Civ (day : Int) (w : World) (e : Ending) (w' : World) : Prop := ∃ y m d : Int, CV day y m d ∧ e = .returned (.tuple #[.int .i64 y, .int .i64 m, .int .i64 d]) ∧ Below w.heap.size w w'
theorem year_more {day : Int} {n : Nat} (hd : day ≤ 47481) (h : yl (1970 + n) ≤ day - dby n) : n + 1 ≤ 129 := by
  rcases Nat.lt_or_ge n 129 with h' | h'
  · omega
  · have h1 := dby_mono (a := 130) (b := n + 1) (by omega)
    rw [dby_all] at h1
    have : dby (n + 1) = dby n + yl (1970 + n) := rfl
    omega
theorem month_more {y r : Int} {k : Nat} (hk : k ≤ 11) (hr : r < yl y) (h : dim y (k + 1) ≤ r - cum y k) : k + 1 ≤ 11 := by
  rcases Nat.lt_or_ge k 11 with h' | h'
  · omega
  · have : k = 11 := by omega
    subst this
    have h1 : cum y 12 = cum y 11 + dim y ((11 : Nat) + 1) := rfl
    rw [cum_all] at h1; omega

set_option maxHeartbeats 2000000 in
theorem impl_civ (day : Int) (w : World) (h0 : 0 ≤ day) (h1 : day ≤ 47481) (ht : Mds w) :
    Calls Tryd.prog 9 #[.int .i64 day] w (Civ day w) := by
  have g1 : ¬ day < 0 := by omega
  have g2 : ¬ 47481 < day := by omega
  have HT := Lib.hid ht
  clear ht
  go_enter Tryd.func9, Tryd.ntmps9
  go_wp2
  go_loopw [0, 5] (fun t yr wr => ∃ n : Nat, n ≤ 129 ∧ yr = .int .i64 (1970 + (n : Int)) ∧ 0 ≤ day - dby n ∧ t = .int .i64 (day - dby n) ∧ Below w.heap.size w wr) (fun t _ _ => (intOf t).toNat)
  case atStart => exact ⟨0, by omega, rfl, by simp [dby]; omega, by simp [dby], Below.refl _ _⟩
  case round =>
    obtain ⟨n, hn, rfl, hp, rfl, hb⟩ := hrel
    have hdb := dby_bd n
    obtain ⟨db1, db2⟩ := hdb
    have db3 : 0 ≤ dby n := by omega
    have db4 : dby n ≤ 50000 := by omega
    have hyl := yl_bd (1970 + n)
    obtain ⟨u1, u2⟩ := hyl
    have HS : Hid (dby (n + 1) = dby n + yl (1970 + n)) := Lib.hid rfl
    have cy := fun W => year_i (1970 + n) W (Go.WalkArith.wf_i64 ⟨by omega, by omega⟩)
    unfold Num at cy
    have HY := Lib.hid (fun h => year_more (n := n) h1 h)
    have HB := Lib.hid hb
    by_cases hge : yl (1970 + n) ≤ day - dby n
    · have hn1 := HY.out hge
      clear hb db1 db2
      generalize dby n = s at *
      generalize yl (1970 + (n : Int)) = u at *
      go_wp2_with (fail)
      go_at_call 24
      refine (cy _).mono ?_
      rintro e w2 ⟨rfl, hb2⟩
      go_wp2_with (fail)
      go_at_call 24
      refine (cy _).mono ?_
      rintro e w3 ⟨rfl, hb3⟩
      have HB3 := Lib.hid (Base.then_below (Base.then_below HB.out hb2) hb3)
      clear hb2 hb3
      go_wp2
      go_roundw
      case rel => exact ⟨n + 1, by omega, by go_num, by rw [HS.out]; omega, by rw [HS.out]; congr 1; omega, HB3.out⟩
      case measure => simp [intOf]; omega
    · have hlt : day - dby n < yl (1970 + n) := by omega
      have HC : Hid (∀ k : Nat, k ≤ 11 → dim (1970 + (n : Int)) (k + 1) ≤ day - dby n - cum (1970 + n) k → k + 1 ≤ 11) := Lib.hid (fun k hk h => month_more hk hlt h)
      have HV : Hid (∀ k : Nat, k ≤ 11 → 0 ≤ day - dby n - cum (1970 + n) k → day - dby n - cum (1970 + n) k < dim (1970 + n) (k + 1) → CV day (1970 + n) (k + 1) (day - dby n - cum (1970 + n) k + 1)) := Lib.hid (fun k hk a b => cv_mk hn hk a b)
      clear hb db1 db2 HY HS
      generalize dby n = s at *
      generalize yl (1970 + (n : Int)) = u at *
      go_wp2_with (fail)
      go_at_call 24
      refine (cy _).mono ?_
      rintro e w2 ⟨rfl, hb2⟩
      have HB2 := Lib.hid (Base.then_below HB.out hb2)
      clear hb2 HB cy
      go_wp2
      go_loopw [0, 6] (fun t mo wr => ∃ k : Nat, k ≤ 11 ∧ mo = .int .i64 ((k : Int) + 1) ∧ 0 ≤ day - s - cum (1970 + n) k ∧ t = .int .i64 (day - s - cum (1970 + n) k) ∧ Below w.heap.size w wr) (fun t _ _ => (intOf t).toNat)
      case atStart => exact ⟨0, by omega, rfl, by simp [cum]; omega, by simp [cum], HB2.out⟩
      case round =>
        clear HB2
        obtain ⟨k, hk, rfl, hp2, rfl, hb⟩ := hrel
        have hcb := cum_bd (1970 + n) k (by omega)
        obtain ⟨cb1, cb2⟩ := hcb
        have cb3 : 0 ≤ cum (1970 + n) k := by omega
        have cb4 : cum (1970 + n) k ≤ 372 := by omega
        have hdm := dim_bd (1970 + n) (k + 1) (by omega) (by omega)
        obtain ⟨v1, v2⟩ := hdm
        have HS : Hid (cum (1970 + n) (k + 1) = cum (1970 + n) k + dim (1970 + n) (k + 1)) := Lib.hid rfl
        have hmd := mds_below HT.out hb
        have cm := fun W h => month_i (1970 + n) k W (Go.WalkArith.wf_i64 ⟨by omega, by omega⟩) (by omega) h
        unfold Num at cm
        have HB := Lib.hid hb
        have HM := Lib.hid hmd
        have HK := Lib.hid (HC.out k hk)
        have HW := Lib.hid (HV.out k hk)
        clear hb hmd cb1 cb2
        generalize cum (1970 + (n : Int)) k = c at *
        generalize dim (1970 + (n : Int)) ((k : Int) + 1) = v at *
        by_cases hge2 : v ≤ day - s - c
        · have hk1 := HK.out hge2
          go_wp2_with (fail)
          go_at_call 25
          refine (cm _ HM.out).mono ?_
          rintro e w3 ⟨rfl, hb3⟩
          have HM3 := Lib.hid (mds_below HM.out hb3)
          have HB3 := Lib.hid (Base.then_below HB.out hb3)
          clear hb3
          go_wp2_with (fail)
          go_at_call 25
          refine (cm _ HM3.out).mono ?_
          rintro e w4 ⟨rfl, hb4⟩
          have HB4 := Lib.hid (Base.then_below HB3.out hb4)
          clear hb4
          go_wp2
          go_roundw
          case rel => exact ⟨k + 1, hk1, by go_num, by rw [HS.out]; omega, by rw [HS.out]; congr 1; omega, HB4.out⟩
          case measure => simp [intOf]; omega
        · have hlt2 : day - s - c < v := by omega
          go_wp2_with (fail)
          go_at_call 25
          refine (cm _ HM.out).mono ?_
          rintro e w3 ⟨rfl, hb3⟩
          have HB3 := Lib.hid (Base.then_below HB.out hb3)
          clear hb3
          go_wp2
          go_ret3
          exact ⟨_, _, _, HW.out hp2 hlt2, rfl, HB3.out⟩

theorem impl_civ_out (day : Int) (w : World) (h : day < 0 ∨ 47481 < day) :
    Calls Tryd.prog 9 #[.int .i64 day] w fun e w' => e = .returned (.tuple #[.int .i64 0, .int .i64 0, .int .i64 0]) ∧ Below w.heap.size w w' := by
  by_cases h1 : day < 0
  · clear h
    go_enter Tryd.func9, Tryd.ntmps9
    go_wp2
    go_ret3
    exact ⟨rfl, Below.refl _ _⟩
  · have h2 : 47481 < day := by omega
    clear h
    go_enter Tryd.func9, Tryd.ntmps9
    go_wp2
    go_ret3
    exact ⟨rfl, Below.refl _ _⟩
end Go.Proofs.YtilephkbcikfbaaDoor.Dt
