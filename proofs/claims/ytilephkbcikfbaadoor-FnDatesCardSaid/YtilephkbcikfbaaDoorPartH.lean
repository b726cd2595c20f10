/-
  CONTRACTS AND PLAIN FACTS, several texts in one; each says in its own words what it proves.
-/
import Derived.Test.YtilephkbcikfbaaDoorPartF
import Derived.Test.YtilephkbcikfbaaDoorPartA
import Derived.Test.YtilephkbcikfbaaDoorPartG
import Derived.LoopTactic
import Derived.Laws.IdiomStrings
import Derived.Laws.Concat
set_option linter.unusedSimpArgs false
set_option linter.unusedVariables false

/-
  CONTRACTS of the model's l3Long, DaysOf and CivilOf: each returns what the calendar says; nothing that was there before is changed.
-/
namespace Go.Proofs.YtilephkbcikfbaaDoor.Dt
open Go Go.RowKit
set_option linter.unusedVariables false
set_option maxRecDepth 1000000

theorem mlit (w : World) {k : Nat} (hk : k < 12) : (w.alloc (.cells #[.int .i64 31, .int .i64 28, .int .i64 31, .int .i64 30, .int .i64 31, .int .i64 30, .int .i64 31, .int .i64 31, .int .i64 30, .int .i64 31, .int .i64 30, .int .i64 31] 3)).cell? ⟨w.heap.size, k, none⟩ = some (.int .i64 (mdt k)) := by
  rw [World.cell?_alloc_new]
  have : ∀ k : Fin 12, (#[Value.int .i64 31, .int .i64 28, .int .i64 31, .int .i64 30, .int .i64 31, .int .i64 30, .int .i64 31, .int .i64 31, .int .i64 30, .int .i64 31, .int .i64 30, .int .i64 31] : Array Value)[k.1]? = some (.int .i64 (mdt k.1)) := by
    intro k
    match k with
    | ⟨0, _⟩ => rfl
    | ⟨1, _⟩ => rfl
    | ⟨2, _⟩ => rfl
    | ⟨3, _⟩ => rfl
    | ⟨4, _⟩ => rfl
    | ⟨5, _⟩ => rfl
    | ⟨6, _⟩ => rfl
    | ⟨7, _⟩ => rfl
    | ⟨8, _⟩ => rfl
    | ⟨9, _⟩ => rfl
    | ⟨10, _⟩ => rfl
    | ⟨11, _⟩ => rfl
  exact this ⟨k, hk⟩

set_option maxHeartbeats 1000000 in
theorem month_s (y : Int) (k : Nat) (w : World) (wy : (Lit.int .i64 y).wf = true) (hk : k ≤ 11) :
    Calls Tryd.prog 51 #[.int .i64 y, .int .i64 ((k : Int) + 1)] w (Num (dim y (k + 1)) w) := by
  have c1 := spec_leap y w wy
  have hc := mlit w (k := k) (by omega)
  have hd : dim y (k + 1) = if k = 1 ∧ lpB y = true then 29 else mdt k := by
    unfold dim
    rw [show ((k : Int) + 1 - 1).toNat = k by omega]
    by_cases h : k = 1
    · simp [h]
    · rw [if_neg (by omega), if_neg (by simp [h])]
  rw [hd]
  clear hd
  generalize mdt k = v at *
  by_cases h2 : k = 1
  · have k2 : ((k : Int) + 1 == 2) = true := b_yes (by omega)
    have H2 := Lib.hid h2
    cases hl : lpB y with
    | true =>
      rw [if_pos ⟨h2, rfl⟩]
      rw [hl] at c1
      clear hl h2
      go_enter Tryd.func51, Tryd.ntmps51
      go_wp2_with (go_at_call 50; refine c1.mono ?_; rintro e w' ⟨rfl, rfl⟩)
      go_ret
      exact ⟨rfl, Below.refl _ _⟩
    | false =>
      rw [if_neg (by simp)]
      rw [hl] at c1
      clear hl h2
      go_enter Tryd.func51, Tryd.ntmps51
      go_wp2_with (go_at_call 50; refine c1.mono ?_; rintro e w' ⟨rfl, rfl⟩)
      go_ret
      exact ⟨rfl, (Below.refl _ _).alloc (Nat.le_refl _) _⟩
  · have k2 : ((k : Int) + 1 == 2) = false := b_no (by omega)
    rw [if_neg (by simp [h2])]
    clear h2 c1
    go_enter Tryd.func51, Tryd.ntmps51
    go_wp2
    go_ret
    exact ⟨rfl, (Below.refl _ _).alloc (Nat.le_refl _) _⟩

set_option maxHeartbeats 2000000 in
theorem spec_civ (day : Int) (w : World) (h0 : 0 ≤ day) (h1 : day ≤ 47481) :
    Calls Tryd.prog 41 #[.int .i64 day] w (Civ day w) := by
  go_enter Tryd.func41, Tryd.ntmps41
  go_wp2_with (fail)
  go_at_call 26
  refine (NumDiv.in_yes _ _ _ _ h0 h1).mono ?_
  rintro e w' ⟨rfl, rfl⟩
  go_wp2
  go_loopw [0, 5] (fun t yr wr => ∃ n : Nat, n ≤ 129 ∧ yr = .int .i64 (1970 + (n : Int)) ∧ 0 ≤ day - dby n ∧ t = .int .i64 (day - dby n) ∧ Below w.heap.size w wr) (fun t _ _ => (intOf t).toNat)
  case atStart => exact ⟨0, by omega, rfl, by simp [dby]; omega, by simp [dby], Below.refl _ _⟩
  case round =>
    obtain ⟨n, hn, rfl, hp, rfl, hb⟩ := hrel
    have hdb := dby_bd n
    obtain ⟨db1, db2⟩ := hdb
    have db3 : 0 ≤ dby n := by omega
    have db4 : dby n ≤ 50000 := by omega
    have HS : Hid (dby (n + 1) = dby n + yl (1970 + n)) := Lib.hid rfl
    have cy := spec_leap (1970 + n) wr (Go.WalkArith.wf_i64 ⟨by omega, by omega⟩)
    have HY := Lib.hid (fun h => year_more (n := n) h1 h)
    have HC : Hid (¬ yl (1970 + n) ≤ day - dby n → ∀ k : Nat, k ≤ 11 → dim (1970 + (n : Int)) (k + 1) ≤ day - dby n - cum (1970 + n) k → k + 1 ≤ 11) := Lib.hid (fun hge k hk h => month_more hk (show day - dby n < yl (1970 + n) by omega) h)
    have HV : Hid (∀ k : Nat, k ≤ 11 → 0 ≤ day - dby n - cum (1970 + n) k → day - dby n - cum (1970 + n) k < dim (1970 + n) (k + 1) → CV day (1970 + n) (k + 1) (day - dby n - cum (1970 + n) k + 1)) := Lib.hid (fun k hk a b => cv_mk hn hk a b)
    have HB := Lib.hid hb
    clear hb db1 db2
    generalize dby n = s at *
    unfold yl at HS HY HC
    cases hl : lpB (1970 + (n : Int))
    all_goals
      rw [hl] at cy HS HY HC
      simp only [Bool.false_eq_true, if_false, if_true] at HS HY HC
      clear hl
    · by_cases hge : 365 ≤ day - s
      · have hn1 := HY.out hge
        go_wp2_with (go_at_call 50; refine cy.mono ?_; rintro e w2 ⟨rfl, rfl⟩)
        go_roundw
        case rel => exact ⟨n + 1, by omega, by go_num, by rw [HS.out]; omega, by rw [HS.out]; congr 1; omega, HB.out⟩
        case measure => simp [intOf]; omega
      · have HC2 := Lib.hid (HC.out hge)
        clear HC
        have hlt : day - s < 365 := by omega
        clear hge HY HS
        go_wp2_with (go_at_call 50; refine cy.mono ?_; rintro e w2 ⟨rfl, rfl⟩)
        go_loopw [0, 7] (fun t mo wr => ∃ k : Nat, k ≤ 11 ∧ mo = .int .i64 ((k : Int) + 1) ∧ 0 ≤ day - s - cum (1970 + n) k ∧ t = .int .i64 (day - s - cum (1970 + n) k) ∧ Below w.heap.size w wr) (fun t _ _ => (intOf t).toNat)
        case atStart => exact ⟨0, by omega, rfl, by simp [cum]; omega, by simp [cum], HB.out⟩
        case round =>
          clear HB
          obtain ⟨k, hk, rfl, hp2, rfl, hb⟩ := hrel
          have hcb := cum_bd (1970 + n) k (by omega)
          obtain ⟨cb1, cb2⟩ := hcb
          have cb3 : 0 ≤ cum (1970 + n) k := by omega
          have cb4 : cum (1970 + n) k ≤ 372 := by omega
          have hdm := dim_bd (1970 + n) (k + 1) (by omega) (by omega)
          obtain ⟨v1, v2⟩ := hdm
          have HS : Hid (cum (1970 + n) (k + 1) = cum (1970 + n) k + dim (1970 + n) (k + 1)) := Lib.hid rfl
          have cm := fun W => month_s (1970 + n) k W (Go.WalkArith.wf_i64 ⟨by omega, by omega⟩) (by omega)
          unfold Num at cm
          have HB := Lib.hid hb
          have HK := Lib.hid (HC2.out k hk)
          have HW := Lib.hid (HV.out k hk)
          clear hb cb1 cb2
          generalize cum (1970 + (n : Int)) k = c at *
          generalize dim (1970 + (n : Int)) ((k : Int) + 1) = v at *
          by_cases hge2 : v ≤ day - s - c
          · have hk1 := HK.out hge2
            go_wp2_with (fail)
            go_at_call 51
            refine (cm _).mono ?_
            rintro e w3 ⟨rfl, hb3⟩
            have HB3 := Lib.hid (Base.then_below HB.out hb3)
            clear hb3
            go_wp2_with (fail)
            go_at_call 51
            refine (cm _).mono ?_
            rintro e w4 ⟨rfl, hb4⟩
            have HB4 := Lib.hid (Base.then_below HB3.out hb4)
            clear hb4
            go_wp2
            go_roundw
            case rel => exact ⟨k + 1, hk1, by go_num, by rw [HS.out]; omega, by rw [HS.out]; congr 1; omega, HB4.out⟩
            case measure => simp [intOf]; omega
          · have hlt2 : day - s - c < v := by omega
            go_wp2_with (fail)
            go_at_call 51
            refine (cm _).mono ?_
            rintro e w3 ⟨rfl, hb3⟩
            have HB3 := Lib.hid (Base.then_below HB.out hb3)
            clear hb3
            go_wp2
            go_ret3
            exact ⟨_, _, _, HW.out hp2 hlt2, rfl, HB3.out⟩
    · by_cases hge : 366 ≤ day - s
      · have hn1 := HY.out hge
        go_wp2_with (go_at_call 50; refine cy.mono ?_; rintro e w2 ⟨rfl, rfl⟩)
        go_roundw
        case rel => exact ⟨n + 1, by omega, by go_num, by rw [HS.out]; omega, by rw [HS.out]; congr 1; omega, HB.out⟩
        case measure => simp [intOf]; omega
      · have HC2 := Lib.hid (HC.out hge)
        clear HC
        have hlt : day - s < 366 := by omega
        clear hge HY HS
        go_wp2_with (go_at_call 50; refine cy.mono ?_; rintro e w2 ⟨rfl, rfl⟩)
        go_loopw [0, 7] (fun t mo wr => ∃ k : Nat, k ≤ 11 ∧ mo = .int .i64 ((k : Int) + 1) ∧ 0 ≤ day - s - cum (1970 + n) k ∧ t = .int .i64 (day - s - cum (1970 + n) k) ∧ Below w.heap.size w wr) (fun t _ _ => (intOf t).toNat)
        case atStart => exact ⟨0, by omega, rfl, by simp [cum]; omega, by simp [cum], HB.out⟩
        case round =>
          clear HB
          obtain ⟨k, hk, rfl, hp2, rfl, hb⟩ := hrel
          have hcb := cum_bd (1970 + n) k (by omega)
          obtain ⟨cb1, cb2⟩ := hcb
          have cb3 : 0 ≤ cum (1970 + n) k := by omega
          have cb4 : cum (1970 + n) k ≤ 372 := by omega
          have hdm := dim_bd (1970 + n) (k + 1) (by omega) (by omega)
          obtain ⟨v1, v2⟩ := hdm
          have HS : Hid (cum (1970 + n) (k + 1) = cum (1970 + n) k + dim (1970 + n) (k + 1)) := Lib.hid rfl
          have cm := fun W => month_s (1970 + n) k W (Go.WalkArith.wf_i64 ⟨by omega, by omega⟩) (by omega)
          unfold Num at cm
          have HB := Lib.hid hb
          have HK := Lib.hid (HC2.out k hk)
          have HW := Lib.hid (HV.out k hk)
          clear hb cb1 cb2
          generalize cum (1970 + (n : Int)) k = c at *
          generalize dim (1970 + (n : Int)) ((k : Int) + 1) = v at *
          by_cases hge2 : v ≤ day - s - c
          · have hk1 := HK.out hge2
            go_wp2_with (fail)
            go_at_call 51
            refine (cm _).mono ?_
            rintro e w3 ⟨rfl, hb3⟩
            have HB3 := Lib.hid (Base.then_below HB.out hb3)
            clear hb3
            go_wp2_with (fail)
            go_at_call 51
            refine (cm _).mono ?_
            rintro e w4 ⟨rfl, hb4⟩
            have HB4 := Lib.hid (Base.then_below HB3.out hb4)
            clear hb4
            go_wp2
            go_roundw
            case rel => exact ⟨k + 1, hk1, by go_num, by rw [HS.out]; omega, by rw [HS.out]; congr 1; omega, HB4.out⟩
            case measure => simp [intOf]; omega
          · have hlt2 : day - s - c < v := by omega
            go_wp2_with (fail)
            go_at_call 51
            refine (cm _).mono ?_
            rintro e w3 ⟨rfl, hb3⟩
            have HB3 := Lib.hid (Base.then_below HB.out hb3)
            clear hb3
            go_wp2
            go_ret3
            exact ⟨_, _, _, HW.out hp2 hlt2, rfl, HB3.out⟩

theorem spec_civ_out (day : Int) (w : World) (h : day < 0 ∨ 47481 < day) :
    Calls Tryd.prog 41 #[.int .i64 day] w fun e w' => e = .returned (.tuple #[.int .i64 0, .int .i64 0, .int .i64 0]) ∧ Below w.heap.size w w' := by
  have H := Lib.hid h
  clear h
  go_enter Tryd.func41, Tryd.ntmps41
  go_wp2_with (go_at_call 26; refine (NumDiv.in_no _ _ _ _ H.out).mono ?_; rintro e w' ⟨rfl, rfl⟩)
  go_ret3
  exact ⟨rfl, Below.refl _ _⟩
end Go.Proofs.YtilephkbcikfbaaDoor.Dt

/-
  CONTRACT of the model's WeekdayOf: at every integer of 64 bits it returns the weekday; the world stays as it was.
-/
namespace Go.Proofs.YtilephkbcikfbaaDoor.Dt
open Go Go.RowKit
set_option linter.unusedVariables false
set_option maxRecDepth 1000000

theorem spec_week (d : Int) (w : World) (wd : (Lit.int .i64 d).wf = true) :
    Calls Tryd.prog 43 #[.int .i64 d] w fun e w' => e = .returned (.int .i64 ((d % 7 + 4) % 7)) ∧ w = w' := by
  have c1 := mod_s d 7 w wd (by omega) (by omega)
  have h0 : 0 ≤ d % 7 := by omega
  have h1 : d % 7 ≤ 6 := by omega
  generalize d % 7 = a at *
  have c2 := mod_s (a + 4) 7 w (Go.WalkArith.wf_i64 ⟨by omega, by omega⟩) (by omega) (by omega)
  generalize (a + 4) % 7 = b at *
  go_enter Tryd.func43, Tryd.ntmps43
  go_wp2_with (fail)
  go_at_call 52
  refine c1.mono ?_
  rintro e w' ⟨rfl, rfl⟩
  go_wp2_with (fail)
  go_at_call 52
  refine c2.mono ?_
  rintro e w' ⟨rfl, rfl⟩
  go_wp2
  go_ret
  exact ⟨rfl, rfl⟩
end Go.Proofs.YtilephkbcikfbaaDoor.Dt

/-
  CONTRACT of the model's FormatInt: at every integer of 64 bits it returns the decimal numeral; nothing that was there before is changed.
-/
namespace Go.Proofs.YtilephkbcikfbaaDoor.Fmt
open Go Go.RowKit
set_option linter.unusedVariables false
set_option maxRecDepth 1000000

theorem ret_str {a b : List UInt8} (h : a = b) : Ending.returned (.string ⟨a.toArray⟩) = .returned (.string ⟨b.toArray⟩) := by rw [h]

/-- A byte in a new block of its own, read back as a string. -/
theorem byteback (wr : World) (z : Int) (h0 : 0 ≤ z) (h1 : z ≤ 255) :
    (convert 22 9 (.slice (some ⟨wr.heap.size, 0, none⟩) 1 1)).run Tryd.prog (wr.alloc (.cells #[.int .u8 z] 5)) = .ok (.string ⟨[UInt8.ofNat z.toNat].toArray⟩) (wr.alloc (.cells #[.int .u8 z] 5)) := by
  have h := run_convert_bytes_back (P := Tryd.prog) (wr.alloc (.cells #[.int .u8 z] 5)) 22 9 5 ⟨wr.heap.size, 0, none⟩ 1 [UInt8.ofNat z.toNat] Tryd.underlying22 Tryd.underlying5 Tryd.underlying9 (fun j hj => by
    have hj0 : j = 0 := by simpa using hj
    subst hj0
    have : ((UInt8.ofNat z.toNat).toNat : Int) = z := by
      rw [UInt8.toNat_ofNat']; omega
    show World.cell? _ ⟨wr.heap.size, 0 + 0, none⟩ = _
    rw [World.cell?_alloc_new]
    simp; omega)
  exact h
theorem addone (c : UInt8) (suf : List UInt8) (h : suf.length ≤ 40) (W : World) :
    (Op.stringOp .add ⟨[c].toArray⟩ ⟨suf.toArray⟩).run Tryd.prog W = .ok (.string ⟨(c :: suf).toArray⟩) W := by
  rw [run_string_add_sum W _ _ (by simp [ByteArray.size]; omega)]; rfl

theorem step (u : Nat) (suf : List UInt8) (hz : u ≠ 0) (wr : World) : ∃ c : UInt8, dd (u / 10) ++ (c :: suf) = dd u ++ suf ∧
    (convert 22 9 (.slice (some ⟨wr.heap.size, 0, none⟩) 1 1)).run Tryd.prog (wr.alloc (.cells #[.int .u8 (48 + (u : Int) % 10)] 5)) = .ok (.string ⟨[c].toArray⟩) (wr.alloc (.cells #[.int .u8 (48 + (u : Int) % 10)] 5)) := by
  refine ⟨_, ?_, byteback wr _ (by omega) (by omega)⟩
  rw [dd_step hz, show (48 + (u : Int) % 10).toNat = 48 + u % 10 by omega, List.append_assoc]; rfl
theorem step_len (u m : Nat) (c : UInt8) (suf : List UInt8) (h : m ≤ 9223372036854775808) (e : dd (u / 10) ++ (c :: suf) = dd m) : (c :: suf).length ≤ 19 := by
  have h19 := dd_len h
  rw [← e, List.length_append] at h19
  omega

set_option maxRecDepth 1000000 in
set_option maxHeartbeats 400000 in
theorem spec_pos (n : Int) (h0 : 0 < n) (h1 : n ≤ 9223372036854775807) (w : World) :
    Calls Tryd.prog 47 #[.int .i64 n] w fun e w' => e = .returned (.string ⟨(Lib.itoa n).toArray⟩) ∧ Below w.heap.size w w' := by
  have hn : ¬ n = 0 := by omega
  have hns : ¬ n < 0 := by omega
  have HI := Lib.hid (itoa_pos h0)
  go_enter Tryd.func47, Tryd.ntmps47
  go_wp2
  go_loopw [3, 4] (fun s x wr => ∃ (u : Nat) (suf : List UInt8), x = .int .i64 u ∧ (u : Int) ≤ n ∧ s = .string ⟨suf.toArray⟩ ∧ suf.length ≤ 19 ∧ dd u ++ suf = dd n.natAbs ∧ Below w.heap.size w wr) (fun _ x _ => (intOf x).toNat)
  case atStart => exact ⟨n.natAbs, [], by rw [Int.natAbs_of_nonneg (by omega)], by omega, rfl, by simp, by simp, Below.refl _ _⟩
  case round =>
    obtain ⟨u, suf, rfl, hu, rfl, hsl, hdd, hb⟩ := hrel
    have HD := Lib.hid hdd
    clear hdd
    by_cases hz : u = 0
    · subst hz
      go_wp2
      go_ret
      refine ⟨ret_str ?_, hb⟩
      rw [HI.out, ← HD.out, dd_zero]; rfl
    · have hz' : 0 < (u : Int) := by omega
      obtain ⟨c, hst, hcv⟩ := step u suf hz wr
      have hadd := addone c suf (by omega)
      have HL := Lib.hid (step_len u n.natAbs c suf (by omega) (hst.trans HD.out))
      have HS := Lib.hid (hst.trans HD.out)
      clear hst
      go_wp2
      go_roundw
      case rel => exact ⟨u / 10, _, by go_num, by omega, rfl, HL.out, HS.out, hb.alloc hb.size _⟩
      case measure => simp [intOf]; omega

theorem neg_mod (u : Nat) : (-(u : Int)).tmod 10 = -((u : Int) % 10) := by
  rw [Int.neg_tmod]; congr 1
theorem neg_div (u : Nat) : (-(u : Int)).tdiv 10 = -((u : Int) / 10) := by
  rw [Int.neg_tdiv]; congr 1

set_option maxRecDepth 1000000 in
set_option maxHeartbeats 800000 in
theorem spec_neg (n : Int) (h0 : -9223372036854775808 ≤ n) (h1 : n < 0) (w : World) :
    Calls Tryd.prog 47 #[.int .i64 n] w fun e w' => e = .returned (.string ⟨(Lib.itoa n).toArray⟩) ∧ Below w.heap.size w w' := by
  have hn : ¬ n = 0 := by omega
  have HI := Lib.hid (itoa_neg h1)
  go_enter Tryd.func47, Tryd.ntmps47
  go_wp2
  go_loopw [3, 4] (fun s x wr => ∃ (u : Nat) (suf : List UInt8), x = .int .i64 (-(u : Int)) ∧ n ≤ -(u : Int) ∧ s = .string ⟨suf.toArray⟩ ∧ suf.length ≤ 19 ∧ dd u ++ suf = dd n.natAbs ∧ Below w.heap.size w wr) (fun _ x _ => (-(intOf x)).toNat)
  case atStart => exact ⟨n.natAbs, [], by rw [show -(n.natAbs : Int) = n by omega], by omega, rfl, by simp, by simp, Below.refl _ _⟩
  case round =>
    obtain ⟨u, suf, rfl, hu, rfl, hsl, hdd, hb⟩ := hrel
    have HD := Lib.hid hdd
    clear hdd
    by_cases hz : u = 0
    · subst hz
      have hadd := addone 45 suf (by omega)
      go_wp2
      go_ret
      refine ⟨ret_str ?_, hb⟩
      rw [HI.out, ← HD.out, dd_zero]; rfl
    · have hz' : 0 < (u : Int) := by omega
      obtain ⟨c, hst, hcv⟩ := step u suf hz wr
      have hadd := addone c suf (by omega)
      have HL := Lib.hid (step_len u n.natAbs c suf (by omega) (hst.trans HD.out))
      have HS := Lib.hid (hst.trans HD.out)
      clear hst
      have htm := neg_mod u
      have htd := neg_div u
      by_cases hm : (u : Int) % 10 = 0
      · rw [hm, show (48 : Int) + 0 = 48 from rfl] at hcv
        go_wp2
        go_roundw
        case rel => exact ⟨u / 10, _, by go_num, by omega, rfl, HL.out, HS.out, hb.alloc hb.size _⟩
        case measure => simp [intOf]; omega
      · go_wp2
        go_roundw
        case rel => exact ⟨u / 10, _, by go_num, by omega, rfl, HL.out, HS.out, hb.alloc hb.size _⟩
        case measure => simp [intOf]; omega

theorem spec_zero (w : World) :
    Calls Tryd.prog 47 #[.int .i64 0] w fun e w' => e = .returned (.string ⟨(Lib.itoa 0).toArray⟩) ∧ Below w.heap.size w w' := by
  have HI := Lib.hid itoa_zero
  go_enter Tryd.func47, Tryd.ntmps47
  go_wp2
  go_ret
  exact ⟨by rw [HI.out]; rfl, Below.refl _ _⟩

/-- The model's FormatInt, at every integer of 64 bits. -/
theorem spec_fmt (n : Int) (h0 : -9223372036854775808 ≤ n) (h1 : n ≤ 9223372036854775807) (w : World) :
    Calls Tryd.prog 47 #[.int .i64 n] w fun e w' => e = .returned (.string ⟨(Lib.itoa n).toArray⟩) ∧ Below w.heap.size w w' := by
  rcases Int.lt_trichotomy n 0 with h | h | h
  · exact spec_neg n h0 h w
  · subst h; exact spec_zero w
  · exact spec_pos n h h1 w
end Go.Proofs.YtilephkbcikfbaaDoor.Fmt

/-
  CONTRACT of the model's Digits: at every two integers of 64 bits it returns the digits that are asked for; nothing that was there before is changed.
-/
namespace Go.Proofs.YtilephkbcikfbaaDoor.Dig
open Go Go.RowKit
set_option linter.unusedVariables false
set_option maxRecDepth 1000000

theorem spec_max0 (n : Int) (w : World) :
    Calls Tryd.prog 53 #[.int .i64 0, .int .i64 n] w fun e w' => e = .returned (.int .i64 (mx n)) ∧ w = w' := by
  by_cases h : 0 < n
  · have e : mx n = n := by unfold mx; rw [if_neg (by omega)]
    rw [e]; clear e
    go_enter Tryd.func53, Tryd.ntmps53
    go_wp2
    go_ret
    exact ⟨rfl, rfl⟩
  · have e : mx n = 0 := by unfold mx; split <;> omega
    rw [e]; clear e
    go_enter Tryd.func53, Tryd.ntmps53
    go_wp2
    go_ret
    exact ⟨rfl, rfl⟩

set_option maxHeartbeats 400000 in
theorem spec_digits (n width : Int) (w : World) (h1 : n ≤ 9223372036854775807) :
    Calls Tryd.prog 45 #[.int .i64 n, .int .i64 width] w fun e w' => e = .returned (.string ⟨(digs n width).toArray⟩) ∧ Below w.heap.size w w' := by
  obtain ⟨b0, b1⟩ := mx_bd h1
  have hl := Fmt.itoa_len (n := mx n) (by omega) b1
  obtain ⟨hm1, hm2, hm3⟩ := mn_bd width
  have HL := Lib.hid hl.2
  have HM := Lib.hid hm3
  clear hl hm3
  go_enter Tryd.func45, Tryd.ntmps45
  go_wp2_with (first | (go_at_call 53; refine (spec_max0 n _).mono ?_; rintro e w' ⟨rfl, rfl⟩) | (go_at_call 47; refine (Fmt.spec_fmt (mx n) (by omega) b1 _).mono ?_; rintro e w1 ⟨rfl, hb1⟩))
  go_loop [5] (fun s => ∃ l : List UInt8, s = .string ⟨l.toArray⟩ ∧ l.length ≤ 20 ∧ zpad l (mn width).toNat = digs n width) (fun s => 20 - strLen s)
  case atStart => exact ⟨_, rfl, HL.out, rfl⟩
  case round =>
    obtain ⟨l, rfl, hll, hz⟩ := hrel
    have HZ := Lib.hid hz
    clear hz
    have hadd := Fmt.addone 48 l (by omega)
    by_cases ha : (l.length : Int) < width
    · by_cases hb : (l.length : Int) < 20
      · have HS := Lib.hid ((zpad_step (l := l) (k := (mn width).toNat) (by have := HM.out; omega)).trans HZ.out)
        go_wp2
        go_round
        case rel => exact ⟨48 :: l, rfl, by simp; omega, HS.out⟩
        case measure => simp [strLen, ByteArray.size]; omega
      · have HE := Lib.hid ((zpad_done (l := l) (k := (mn width).toNat) (by have := HM.out; omega)).symm.trans HZ.out)
        go_wp2
        go_ret
        exact ⟨Fmt.ret_str HE.out, hb1⟩
    · have HE := Lib.hid ((zpad_done (l := l) (k := (mn width).toNat) (by have := HM.out; omega)).symm.trans HZ.out)
      go_wp2
      go_ret
      exact ⟨Fmt.ret_str HE.out, hb1⟩
end Go.Proofs.YtilephkbcikfbaaDoor.Dig
