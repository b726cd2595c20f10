/-
  CONTRACTS AND PLAIN FACTS, several texts in one; each says in its own words what it proves.
-/
import Derived.Test.YtjeihicjfgimdaaGreatDoorPartM
import Derived.Test.YtjeihicjfgimdaaGreatDoorPartN
import Derived.Test.YtjeihicjfgimdaaGreatDoorPartA
import Derived.LoopTactic
import Derived.Lib.LaidTab
set_option linter.unusedSimpArgs false
set_option linter.unusedVariables false

/-
  CONTRACT of the model's Mod: at every two integers of 64 bits it returns the remainder rounded down, 0 for a divisor out of range; the world stays as it was.
-/
namespace Go.Proofs.YtjeihicjfgimdaaGreatDoor.NumDiv
open Go Go.RowKit
set_option linter.unusedVariables false
set_option maxRecDepth 1000000

theorem spec_mod (n m : Int) (w : World) (wn : (Lit.int .i64 n).wf = true) (wm : (Lit.int .i64 m).wf = true) :
    Calls Tryz.prog 180 #[.int .i64 n, .int .i64 m] w fun e w' => e = .returned (.int .i64 (md n m)) ∧ w = w' := by
  by_cases h : m < 1 ∨ 1000000000000 < m
  · rw [md_out h]
    have H := Lib.hid h; clear h
    go_enter Tryz.func180, Tryz.ntmps180
    go_wp2_with (go_at_call 64; refine (in_no _ _ _ _ H.out).mono ?_; rintro e w' ⟨rfl, rfl⟩)
    go_ret
    exact ⟨rfl, rfl⟩
  · have h1 : 1 ≤ m := by omega
    have h2 : m ≤ 1000000000000 := by omega
    rw [md_in h1 h2]
    clear h
    obtain ⟨b1, b2⟩ := tmod_bd n m h1
    have h0 : 0 ≤ n.tmod m + m := by omega
    go_enter Tryz.func180, Tryz.ntmps180
    go_wp2_with (go_at_call 64; refine (in_yes _ _ _ _ h1 h2).mono ?_; rintro e w' ⟨rfl, rfl⟩)
    go_ret
    refine ⟨ret_int ?_, rfl⟩
    rcases tmod_split n m h1 with e | ⟨_, e⟩ <;> rw [e] <;> simp
end Go.Proofs.YtjeihicjfgimdaaGreatDoor.NumDiv

/-
  CONTRACT of the model's IsLeap: at every integer of 64 bits it returns whether the year is a leap year; the world stays as it was.
-/
namespace Go.Proofs.YtjeihicjfgimdaaGreatDoor.Dt
open Go Go.RowKit
set_option linter.unusedVariables false
set_option maxRecDepth 1000000

theorem mod_s (y m : Int) (w : World) (wy : (Lit.int .i64 y).wf = true) (h1 : 1 ≤ m) (h2 : m ≤ 1000000) :
    Calls Tryz.prog 180 #[.int .i64 y, .int .i64 m] w fun e w' => e = .returned (.int .i64 (y % m)) ∧ w = w' := by
  have c := NumDiv.spec_mod y m w wy (Go.WalkArith.wf_i64 ⟨by omega, by omega⟩)
  rw [NumDiv.md_in h1 (by omega)] at c
  exact c

set_option maxHeartbeats 1000000 in
theorem spec_leap (y : Int) (w : World) (wy : (Lit.int .i64 y).wf = true) :
    Calls Tryz.prog 133 #[.int .i64 y] w fun e w' => e = .returned (.bool (lpB y)) ∧ w = w' := by
  have c4 := mod_s y 4 w wy (by omega) (by omega)
  have c100 := mod_s y 100 w wy (by omega) (by omega)
  have c400 := mod_s y 400 w wy (by omega) (by omega)
  by_cases h4 : y % 4 = 0
  · by_cases h100 : y % 100 = 0
    · rw [lp_cent h100]
      have k4 := b_yes h4
      have k100 := n_no h100
      generalize y % 4 = a at *
      generalize y % 100 = b at *
      generalize y % 400 = c at *
      clear h4 h100
      go_enter Tryz.func133, Tryz.ntmps133
      go_wp2_with (fail)
      go_at_call 180
      refine c4.mono ?_
      rintro e w' ⟨rfl, rfl⟩
      go_wp2_with (fail)
      go_at_call 180
      refine c100.mono ?_
      rintro e w' ⟨rfl, rfl⟩
      go_wp2_with (fail)
      go_at_call 180
      refine c400.mono ?_
      rintro e w' ⟨rfl, rfl⟩
      go_wp2
      go_ret
      exact ⟨rfl, rfl⟩
    · rw [lp_yes h4 h100]
      have k4 := b_yes h4
      have k100 := n_yes h100
      generalize y % 4 = a at *
      generalize y % 100 = b at *
      clear h4 h100
      go_enter Tryz.func133, Tryz.ntmps133
      go_wp2_with (fail)
      go_at_call 180
      refine c4.mono ?_
      rintro e w' ⟨rfl, rfl⟩
      go_wp2_with (fail)
      go_at_call 180
      refine c100.mono ?_
      rintro e w' ⟨rfl, rfl⟩
      go_wp2
      go_ret
      exact ⟨rfl, rfl⟩
  · rw [lp_no h4]
    have k4 := b_no h4
    generalize y % 4 = a at *
    clear h4
    go_enter Tryz.func133, Tryz.ntmps133
    go_wp2_with (fail)
    go_at_call 180
    refine c4.mono ?_
    rintro e w' ⟨rfl, rfl⟩
    go_wp2
    go_ret
    exact ⟨rfl, rfl⟩
end Go.Proofs.YtjeihicjfgimdaaGreatDoor.Dt

/-
  CONTRACT of the program's isDivisor: whether a number may be a divisor; the world stays as it was.
-/
namespace Go.Proofs.YtjeihicjfgimdaaGreatDoor.NumDiv
open Go Go.RowKit
set_option linter.unusedVariables false
set_option maxRecDepth 1000000

theorem isd_yes (m : Int) (w : World) (h1 : 1 ≤ m) (h2 : m ≤ 1000000000000) :
    Calls Tryz.prog 229 #[.int .i64 m] w fun e w' => e = .returned (.bool true) ∧ w = w' := by
  go_enter Tryz.func229, Tryz.ntmps229
  go_wp2
  go_ret
  exact ⟨rfl, rfl⟩
theorem isd_no (m : Int) (w : World) (h : m < 1 ∨ 1000000000000 < m) :
    Calls Tryz.prog 229 #[.int .i64 m] w fun e w' => e = .returned (.bool false) ∧ w = w' := by
  by_cases h1 : 1 ≤ m
  · have h2 : ¬ m ≤ 1000000000000 := by omega
    clear h
    go_enter Tryz.func229, Tryz.ntmps229
    go_wp2
    go_ret
    exact ⟨rfl, rfl⟩
  · clear h
    go_enter Tryz.func229, Tryz.ntmps229
    go_wp2
    go_ret
    exact ⟨rfl, rfl⟩
end Go.Proofs.YtjeihicjfgimdaaGreatDoor.NumDiv

/-
  CONTRACT of the program's Mod: at every two integers of 64 bits it returns the remainder rounded down, 0 for a divisor out of range; the world stays as it was.
-/
namespace Go.Proofs.YtjeihicjfgimdaaGreatDoor.NumDiv
open Go Go.RowKit
set_option linter.unusedVariables false
set_option maxRecDepth 1000000

theorem impl_mod (n m : Int) (w : World) (wn : (Lit.int .i64 n).wf = true) (wm : (Lit.int .i64 m).wf = true) :
    Calls Tryz.prog 210 #[.int .i64 n, .int .i64 m] w fun e w' => e = .returned (.int .i64 (md n m)) ∧ w = w' := by
  by_cases h : m < 1 ∨ 1000000000000 < m
  · rw [md_out h]
    have H := Lib.hid h; clear h
    go_enter Tryz.func210, Tryz.ntmps210
    go_wp2_with (go_at_call 229; refine (isd_no _ _ H.out).mono ?_; rintro e w' ⟨rfl, rfl⟩)
    go_ret
    exact ⟨rfl, rfl⟩
  · have h1 : 1 ≤ m := by omega
    have h2 : m ≤ 1000000000000 := by omega
    rw [md_in h1 h2]
    clear h
    have bd := tmod_bd n m h1
    obtain ⟨b1, b2⟩ := bd
    by_cases hr : n.tmod m < 0
    · rw [← tmod_neg_emod h1 hr]
      go_enter Tryz.func210, Tryz.ntmps210
      go_wp2_with (go_at_call 229; refine (isd_yes _ _ h1 h2).mono ?_; rintro e w' ⟨rfl, rfl⟩)
      go_ret
      exact ⟨rfl, rfl⟩
    · rw [← tmod_pos_emod h1 (by omega)]
      go_enter Tryz.func210, Tryz.ntmps210
      go_wp2_with (go_at_call 229; refine (isd_yes _ _ h1 h2).mono ?_; rintro e w' ⟨rfl, rfl⟩)
      go_ret
      exact ⟨rfl, rfl⟩
end Go.Proofs.YtjeihicjfgimdaaGreatDoor.NumDiv

/-
  CONTRACT of the program's IsLeap: at every integer of 64 bits it returns whether the year is a leap year; the world stays as it was.
-/
namespace Go.Proofs.YtjeihicjfgimdaaGreatDoor.Dt
open Go Go.RowKit
set_option linter.unusedVariables false
set_option maxRecDepth 1000000

theorem mod_i (y m : Int) (w : World) (wy : (Lit.int .i64 y).wf = true) (h1 : 1 ≤ m) (h2 : m ≤ 1000000) :
    Calls Tryz.prog 210 #[.int .i64 y, .int .i64 m] w fun e w' => e = .returned (.int .i64 (y % m)) ∧ w = w' := by
  have c := NumDiv.impl_mod y m w wy (Go.WalkArith.wf_i64 ⟨by omega, by omega⟩)
  rw [NumDiv.md_in h1 (by omega)] at c
  exact c

set_option maxHeartbeats 1000000 in
theorem impl_leap (y : Int) (w : World) (wy : (Lit.int .i64 y).wf = true) :
    Calls Tryz.prog 239 #[.int .i64 y] w fun e w' => e = .returned (.bool (lpB y)) ∧ w = w' := by
  have c4 := mod_i y 4 w wy (by omega) (by omega)
  have c100 := mod_i y 100 w wy (by omega) (by omega)
  have c400 := mod_i y 400 w wy (by omega) (by omega)
  by_cases h4 : y % 4 = 0
  · by_cases h100 : y % 100 = 0
    · rw [lp_cent h100]
      have k4 := b_yes h4
      have k100 := n_no h100
      generalize y % 4 = a at *
      generalize y % 100 = b at *
      generalize y % 400 = c at *
      clear h4 h100
      go_enter Tryz.func239, Tryz.ntmps239
      go_wp2_with (fail)
      go_at_call 210
      refine c4.mono ?_
      rintro e w' ⟨rfl, rfl⟩
      go_wp2_with (fail)
      go_at_call 210
      refine c100.mono ?_
      rintro e w' ⟨rfl, rfl⟩
      go_wp2_with (fail)
      go_at_call 210
      refine c400.mono ?_
      rintro e w' ⟨rfl, rfl⟩
      go_wp2
      go_ret
      exact ⟨rfl, rfl⟩
    · rw [lp_yes h4 h100]
      have k4 := b_yes h4
      have k100 := n_yes h100
      generalize y % 4 = a at *
      generalize y % 100 = b at *
      clear h4 h100
      go_enter Tryz.func239, Tryz.ntmps239
      go_wp2_with (fail)
      go_at_call 210
      refine c4.mono ?_
      rintro e w' ⟨rfl, rfl⟩
      go_wp2_with (fail)
      go_at_call 210
      refine c100.mono ?_
      rintro e w' ⟨rfl, rfl⟩
      go_wp2
      go_ret
      exact ⟨rfl, rfl⟩
  · rw [lp_no h4]
    have k400 : (y % 400 == 0) = false := b_no (by omega)
    have k4 := b_no h4
    generalize y % 4 = a at *
    generalize y % 400 = c at *
    clear h4
    go_enter Tryz.func239, Tryz.ntmps239
    go_wp2_with (fail)
    go_at_call 210
    refine c4.mono ?_
    rintro e w' ⟨rfl, rfl⟩
    go_wp2_with (fail)
    go_at_call 210
    refine c400.mono ?_
    rintro e w' ⟨rfl, rfl⟩
    go_wp2
    go_ret
    exact ⟨rfl, rfl⟩
end Go.Proofs.YtjeihicjfgimdaaGreatDoor.Dt

/-
  CONTRACTS of the program's daysOfYear, daysOfMonth, DaysOf and CivilOf, where its table of months reads as it is written: each returns what the calendar says; nothing that was there before is changed.
-/
namespace Go.Proofs.YtjeihicjfgimdaaGreatDoor.Dt
open Go Go.RowKit
set_option linter.unusedVariables false
set_option maxRecDepth 1000000

theorem cell_of_var {P : Program} {w : World} {name : String} {g : Nat} {cs : Array Value} (hg : P.globalNamed name = some g) (h : w.var? P name = some cs) (k : Nat) : w.cell? ⟨g, k, none⟩ = cs[k]? := by
  unfold World.var? at h
  rw [hg] at h
  simp only [Option.bind_some] at h
  unfold World.cell?
  split at h
  · rename_i cs' t fr hh
    injection h with h; subst h
    simp [hh]
  · cases h
theorem var_lt {P : Program} {w : World} {name : String} {g : Nat} {cs : Array Value} (hg : P.globalNamed name = some g) (h : w.var? P name = some cs) : g < w.heap.size := by
  unfold World.var? at h
  rw [hg] at h
  simp only [Option.bind_some] at h
  rcases Nat.lt_or_ge g w.heap.size with h' | h'
  · exact h'
  · rw [Array.getElem?_eq_none h'] at h; simp at h
/-- The program's table of months, as it is written. -/
def Mds (w : World) : Prop := Lib.TabIs Tryz.prog w "loop.example/g03012/impl.monthDays" .i64 mdays
theorem mds_below {W w1 : World} (h : Mds W) (hb : Below W.heap.size W w1) : Mds w1 := Base.var_below h hb
theorem mds_cell {w : World} (h : Mds w) {k : Nat} (hk : k < 12) : w.cell? ⟨11, k, none⟩ = some (.int .i64 (mdt k)) := by
  rw [cell_of_var (show Tryz.prog.globalNamed "loop.example/g03012/impl.monthDays" = some 11 by kernel_rfl) h]
  have hl : k < mdays.length := hk
  simp [mdt, List.getD, hl]

def Num (z : Int) (w : World) (e : Ending) (w' : World) : Prop := e = .returned (.int .i64 z) ∧ Below w.heap.size w w'
theorem num_ret {z z' : Int} {w w' : World} (h : z = z') (hb : Below w.heap.size w w') : Num z' w (.returned (.int .i64 z)) w' := ⟨by rw [h], hb⟩

theorem year_i (y : Int) (w : World) (wy : (Lit.int .i64 y).wf = true) : Calls Tryz.prog 225 #[.int .i64 y] w (Num (yl y) w) := by
  have c1 := impl_leap y w wy
  unfold yl
  cases hl : lpB y
  all_goals
    rw [hl] at c1
    simp only [Bool.false_eq_true, if_false, if_true]
    clear hl
    go_enter Tryz.func225, Tryz.ntmps225
    go_wp2_with (go_at_call 239; refine c1.mono ?_; rintro e w' ⟨rfl, rfl⟩)
    go_ret
    exact ⟨rfl, Below.refl _ _⟩

set_option maxHeartbeats 1000000 in
theorem month_i (y : Int) (k : Nat) (w : World) (wy : (Lit.int .i64 y).wf = true) (hk : k ≤ 11) (ht : Mds w) :
    Calls Tryz.prog 224 #[.int .i64 y, .int .i64 ((k : Int) + 1)] w (Num (dim y (k + 1)) w) := by
  have c1 := impl_leap y w wy
  have hc := mds_cell ht (k := k) (by omega)
  have hd : dim y (k + 1) = if k = 1 ∧ lpB y = true then 29 else mdt k := by
    unfold dim
    rw [show ((k : Int) + 1 - 1).toNat = k by omega]
    by_cases h : k = 1
    · simp [h]
    · rw [if_neg (by omega), if_neg (by simp [h])]
  rw [hd]
  clear hd
  generalize mdt k = v at *
  by_cases h2 : k = 1
  · have k2 : ((k : Int) + 1 == 2) = true := b_yes (by omega)
    have H2 := Lib.hid h2
    cases hl : lpB y with
    | true =>
      rw [if_pos ⟨h2, rfl⟩]
      rw [hl] at c1
      clear hl h2
      go_enter Tryz.func224, Tryz.ntmps224
      go_wp2_with (go_at_call 239; refine c1.mono ?_; rintro e w' ⟨rfl, rfl⟩)
      go_ret
      exact ⟨rfl, Below.refl _ _⟩
    | false =>
      rw [if_neg (by simp)]
      rw [hl] at c1
      clear hl h2
      go_enter Tryz.func224, Tryz.ntmps224
      go_wp2_with (go_at_call 239; refine c1.mono ?_; rintro e w' ⟨rfl, rfl⟩)
      go_ret
      exact ⟨rfl, Below.refl _ _⟩
  · have k2 : ((k : Int) + 1 == 2) = false := b_no (by omega)
    rw [if_neg (by simp [h2])]
    clear h2 c1
    go_enter Tryz.func224, Tryz.ntmps224
    go_wp2
    go_ret
    exact ⟨rfl, Below.refl _ _⟩

theorem dof_out {y m d : Int} (h : y < 1970 ∨ 2099 < y ∨ m < 1 ∨ 12 < m ∨ d < 1 ∨ dim y m < d) : dof y m d = -1 := by unfold dof; rw [if_neg (by omega)]

set_option maxHeartbeats 2000000 in
theorem days_in (N K : Nat) (d : Int) (w : World) (hN : N ≤ 129) (hK : K ≤ 11) (hd1 : 1 ≤ d) (hd2 : d ≤ dim (1970 + N) (K + 1)) (ht : Mds w) :
    Calls Tryz.prog 206 #[.int .i64 (1970 + (N : Int)), .int .i64 ((K : Int) + 1), .int .i64 d] w (Num (d - 1 + dby N + cum (1970 + N) K) w) := by
  have cm := month_i (1970 + N) K w (Go.WalkArith.wf_i64 ⟨by omega, by omega⟩) hK ht
  have hd3 : d ≤ 31 := by have := dim_bd (1970 + N) (K + 1) (by omega) (by omega); omega
  have hdd : ¬ dim (1970 + N) (K + 1) < d := by omega
  have HD := Lib.hid hd2
  have g1 : ¬ (1970 + (N : Int)) < 1970 := by omega
  have g2 : ¬ 2099 < (1970 + (N : Int)) := by omega
  have g3 : ¬ ((K : Int) + 1) < 1 := by omega
  have g4 : ¬ 12 < ((K : Int) + 1) := by omega
  have g5 : ¬ d < 1 := by omega
  generalize hdim : dim (1970 + (N : Int)) ((K : Int) + 1) = dm at cm hdd
  clear hdim hd2
  unfold Num at cm
  have HT := Lib.hid ht
  clear ht
  go_enter Tryz.func206, Tryz.ntmps206
  go_wp2_with (go_at_call 224; refine cm.mono ?_; rintro e w1 ⟨rfl, hb1⟩)
  have HB := Lib.hid hb1
  clear hb1 cm hdd
  go_loopw [7, 8] (fun s yr wr => ∃ n : Nat, n ≤ N ∧ yr = .int .i64 (1970 + (n : Int)) ∧ s = .int .i64 (d - 1 + dby n) ∧ Below w.heap.size w wr) (fun _ yr _ => (1970 + N) - (intOf yr).toNat)
  case atStart => exact ⟨0, Nat.zero_le _, rfl, by simp [dby], HB.out⟩
  case round =>
    clear HB
    obtain ⟨n, hn, rfl, rfl, hb⟩ := hrel
    have hdb := dby_bd n
    obtain ⟨db1, db2⟩ := hdb
    have db3 : 0 ≤ dby n := by omega
    have db4 : dby n ≤ 50000 := by omega
    by_cases hlt : n < N
    · have hyl := yl_bd (1970 + n)
      obtain ⟨u1, u2⟩ := hyl
      have HS : Hid (dby (n + 1) = dby n + yl (1970 + n)) := Lib.hid rfl
      have cy := year_i (1970 + n) wr (Go.WalkArith.wf_i64 ⟨by omega, by omega⟩)
      unfold Num at cy
      have HB := Lib.hid hb
      clear hb db1 db2
      generalize dby n = s at *
      generalize yl (1970 + (n : Int)) = u at *
      go_wp2_with (go_at_call 225; refine cy.mono ?_; rintro e w2 ⟨rfl, hb2⟩)
      go_roundw
      case rel => exact ⟨n + 1, by omega, by go_num, by rw [HS.out]; congr 1; omega, Base.then_below HB.out hb2⟩
      case measure => simp [intOf]; omega
    · obtain rfl : n = N := by omega
      have HB := Lib.hid hb
      clear hb db1 db2
      generalize dby n = s at *
      go_wp2
      go_loopw [7, 9] (fun t mo wq => ∃ k : Nat, k ≤ K ∧ mo = .int .i64 ((k : Int) + 1) ∧ t = .int .i64 (d - 1 + s + cum (1970 + n) k) ∧ Below w.heap.size w wq) (fun _ mo _ => (K + 1) - (intOf mo).toNat)
      case atStart => exact ⟨0, Nat.zero_le _, rfl, by simp [cum], HB.out⟩
      case round =>
        clear HB
        obtain ⟨k, hk, rfl, rfl, hb⟩ := hrel
        have hcb := cum_bd (1970 + n) k (by omega)
        obtain ⟨cb1, cb2⟩ := hcb
        have cb3 : 0 ≤ cum (1970 + n) k := by omega
        have cb4 : cum (1970 + n) k ≤ 372 := by omega
        by_cases hlt2 : k < K
        · have hdm := dim_bd (1970 + n) (k + 1) (by omega) (by omega)
          obtain ⟨v1, v2⟩ := hdm
          have HS : Hid (cum (1970 + n) (k + 1) = cum (1970 + n) k + dim (1970 + n) (k + 1)) := Lib.hid rfl
          have cm := month_i (1970 + n) k wr (Go.WalkArith.wf_i64 ⟨by omega, by omega⟩) (by omega) (mds_below HT.out hb)
          unfold Num at cm
          have HB := Lib.hid hb
          clear hb cb1 cb2
          generalize cum (1970 + (n : Int)) k = c at *
          generalize dim (1970 + (n : Int)) ((k : Int) + 1) = v at *
          go_wp2_with (go_at_call 224; refine cm.mono ?_; rintro e w2 ⟨rfl, hb2⟩)
          go_roundw
          case rel => exact ⟨k + 1, by omega, by go_num, by rw [HS.out]; congr 1; omega, Base.then_below HB.out hb2⟩
          case measure => simp [intOf]; omega
        · obtain rfl : k = K := by omega
          have HB := Lib.hid hb
          clear hb cb1 cb2
          generalize cum (1970 + (n : Int)) k = c at *
          go_wp2
          go_ret
          exact num_ret (by omega) HB.out

set_option maxHeartbeats 2000000 in
theorem impl_days (y m d : Int) (w : World) (wy : (Lit.int .i64 y).wf = true) (ht : Mds w) :
    Calls Tryz.prog 206 #[.int .i64 y, .int .i64 m, .int .i64 d] w (Num (dof y m d) w) := by
  by_cases h1 : y < 1970
  · rw [dof_out (Or.inl h1)]
    go_enter Tryz.func206, Tryz.ntmps206
    go_wp2
    go_ret
    exact ⟨rfl, Below.refl _ _⟩
  by_cases h2 : 2099 < y
  · rw [dof_out (Or.inr (Or.inl h2))]
    go_enter Tryz.func206, Tryz.ntmps206
    go_wp2
    go_ret
    exact ⟨rfl, Below.refl _ _⟩
  by_cases h3 : m < 1
  · rw [dof_out (Or.inr (Or.inr (Or.inl h3)))]
    go_enter Tryz.func206, Tryz.ntmps206
    go_wp2
    go_ret
    exact ⟨rfl, Below.refl _ _⟩
  by_cases h4 : 12 < m
  · rw [dof_out (Or.inr (Or.inr (Or.inr (Or.inl h4))))]
    go_enter Tryz.func206, Tryz.ntmps206
    go_wp2
    go_ret
    exact ⟨rfl, Below.refl _ _⟩
  by_cases h5 : d < 1
  · rw [dof_out (Or.inr (Or.inr (Or.inr (Or.inr (Or.inl h5)))))]
    go_enter Tryz.func206, Tryz.ntmps206
    go_wp2
    go_ret
    exact ⟨rfl, Below.refl _ _⟩
  obtain ⟨N, rfl⟩ : ∃ N : Nat, y = 1970 + (N : Int) := ⟨(y - 1970).toNat, by omega⟩
  obtain ⟨K, rfl⟩ : ∃ K : Nat, m = (K : Int) + 1 := ⟨(m - 1).toNat, by omega⟩
  by_cases h6 : dim (1970 + N) (K + 1) < d
  · rw [dof_out (Or.inr (Or.inr (Or.inr (Or.inr (Or.inr h6)))))]
    have cm := month_i (1970 + N) K w (Go.WalkArith.wf_i64 ⟨by omega, by omega⟩) (by omega) ht
    unfold Num at cm
    generalize dim (1970 + (N : Int)) ((K : Int) + 1) = v at *
    clear ht wy
    go_enter Tryz.func206, Tryz.ntmps206
    go_wp2_with (go_at_call 224; refine cm.mono ?_; rintro e w1 ⟨rfl, hb1⟩)
    go_ret
    exact ⟨rfl, hb1⟩
  · have e : dof (1970 + N) (K + 1) d = d - 1 + dby N + cum (1970 + N) K := by
      unfold dof
      rw [if_pos (by omega), show (1970 + (N : Int) - 1970).toNat = N by omega, show ((K : Int) + 1 - 1).toNat = K by omega]
    rw [e]
    exact days_in N K d w (by omega) (by omega) (by omega) (by omega) ht
end Go.Proofs.YtjeihicjfgimdaaGreatDoor.Dt
