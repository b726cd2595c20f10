/-
  CONTRACTS of both sides' IsSketch; nothing that was there before is changed.
-/
import Derived.Test.YtebkhailknbnhaaSk
import Derived.Test.YtebkhailknbnhaaNumIn
namespace Go.Proofs.Ytebkhailknbnhaa.Sk
open Go Go.RowKit
set_option linter.unusedVariables false
set_option maxRecDepth 1000000

def inTurn (x : Int) : Bool := decide (0 ≤ x ∧ x ≤ 64)
/-- Counts and a total that are as they should be. -/
def skOk (zs : List Int) (n : Int) : Bool := zs.all inTurn && ((decide (zs.length = 0) || decide (zs.length = 64)) && decide (0 ≤ n ∧ n ≤ 63))
def BoolEnd (b : Bool) (w : World) (e : Ending) (w' : World) : Prop := e = .returned (.bool b) ∧ Below w.heap.size w w'
theorem ret_b {a b : Bool} (h : a = b) : Ending.returned (.bool a) = .returned (.bool b) := by rw [h]
theorem take_more {zs : List Int} {k : Nat} (h : k < zs.length) : zs.take (k + 1) = zs.take k ++ [zs.getD k 0] := by
  rw [List.take_succ_eq_append_getElem h]; simp [List.getD, h]
theorem all_more {zs : List Int} {k : Nat} (h : k < zs.length) (h1 : (zs.take k).all inTurn = true) (h2 : inTurn (zs.getD k 0) = true) : (zs.take (k + 1)).all inTurn = true := by
  rw [take_more h, List.all_append, h1]; simpa using h2
theorem all_bad {zs : List Int} {k : Nat} {n : Int} (h : k < zs.length) (h2 : inTurn (zs.getD k 0) = false) : skOk zs n = false := by
  have : zs.all inTurn = false := by
    rw [List.all_eq_false]; refine ⟨zs.getD k 0, ?_, by rw [h2]; simp⟩
    have e : zs.getD k 0 = zs[k]'h := by simp [List.getD, h]
    rw [e]; exact List.getElem_mem _
  unfold skOk; rw [this]; rfl
theorem all_done {zs : List Int} {k : Nat} {n : Int} (h : ¬ k < zs.length) (h1 : (zs.take k).all inTurn = true) : skOk zs n = ((decide (zs.length = 0) || decide (zs.length = 64)) && decide (0 ≤ n ∧ n ≤ 63)) := by
  rw [List.take_of_length_le (by omega)] at h1
  unfold skOk; rw [h1]; rfl

theorem within_yes (n l : Int) (w : World) (h : 0 ≤ n) (h2 : n ≤ l) : Calls Try.prog 67 #[.int .i64 n, .int .i64 l] w fun e w' => e = .returned (.bool true) ∧ w = w' := by
  go_enter Try.func67, Try.ntmps67
  go_wp2
  go_ret
  exact ⟨rfl, rfl⟩
theorem within_no (n l : Int) (w : World) (h : n < 0 ∨ l < n) : Calls Try.prog 67 #[.int .i64 n, .int .i64 l] w fun e w' => e = .returned (.bool false) ∧ w = w' := by
  by_cases h0 : 0 ≤ n
  · have h1 : ¬ n ≤ l := by omega
    clear h
    go_enter Try.func67, Try.ntmps67
    go_wp2
    go_ret
    exact ⟨rfl, rfl⟩
  · clear h
    go_enter Try.func67, Try.ntmps67
    go_wp2
    go_ret
    exact ⟨rfl, rfl⟩

set_option maxHeartbeats 2000000 in
theorem spec_iss (u : Value) (zs : List Int) (n : Int) (w : World) (h : Nums.Holds w u zs) (hl : zs.length ≤ 1048576) :
    Calls Try.prog 33 #[.agg #[u, .int .i64 n]] w (BoolEnd (skOk zs n) w) := by
  have HB0 := Lib.hid ((Below.refl w.heap.size w).alloc (Nat.le_refl _) (.cells #[u, .int .i64 n] 26))
  obtain ⟨a, cap, rfl, ha⟩ := shape_n h
  have HA : Hid (0 < zs.length → ∃ b off, a = some ⟨b, off, none⟩ ∧ Nums.At (w.alloc (.cells #[.slice a zs.length cap, .int .i64 n] 26)) b off zs) := Lib.hid (fun h0 => by
    obtain ⟨b, off, e, hc⟩ := ha h0
    exact ⟨b, off, e, Nums.at_below hc HB0.out (Nums.at_lt hc h0)⟩)
  clear ha h
  go_enter Try.func33, Try.ntmps33
  go_wp2
  go_loop [3] (fun i => ∃ k : Nat, k ≤ zs.length ∧ i = .int .i64 (k : Int) ∧ Hid ((zs.take k).all inTurn = true)) (fun i => zs.length - (intOf i).toNat)
  case atStart => exact ⟨0, Nat.zero_le _, rfl, Lib.hid (by simp)⟩
  case round =>
    obtain ⟨k, hk, rfl, HP⟩ := hrel
    by_cases hlt : k < zs.length
    · obtain ⟨b, off, rfl, hc⟩ := HA.out (by omega)
      have c0 := hc k hlt
      have HM := Lib.hid (all_more hlt HP.out)
      have HN := Lib.hid (all_bad (n := n) hlt)
      clear hc
      generalize zs.getD k 0 = x at c0 HM HN
      have hki : (k : Int) < (zs.length : Int) := by omega
      by_cases hx : 0 ≤ x ∧ x ≤ 64
      · have HE := Lib.hid (HM.out (by unfold inTurn; simpa using hx))
        have HX := Lib.hid hx
        clear HM HN hx
        go_wp2_with (fail)
        go_at_call 65
        refine (NumDiv.in_yes _ _ _ _ HX.out.1 HX.out.2).mono ?_
        rintro e w' ⟨rfl, rfl⟩
        go_wp2
        go_round
        case rel => exact ⟨k + 1, by omega, by go_num, HE⟩
        case measure => simp [intOf]; omega
      · have HE := Lib.hid (HN.out (by unfold inTurn; simpa using hx))
        have HX : Hid (x < 0 ∨ 64 < x) := Lib.hid (by omega)
        clear HM HN hx
        go_wp2_with (fail)
        go_at_call 65
        refine (NumDiv.in_no _ _ _ _ HX.out).mono ?_
        rintro e w' ⟨rfl, rfl⟩
        go_wp2
        go_ret
        exact ⟨ret_b HE.out.symm, HB0.out⟩
    · have HE := Lib.hid (all_done (n := n) hlt HP.out)
      by_cases h0 : (zs.length : Int) = 0
      · have q0 : ((zs.length : Int) == 0) = true := by simpa using h0
        have HZ : Hid (skOk zs n = decide (0 ≤ n ∧ n ≤ 63)) := Lib.hid (by rw [HE.out, show zs.length = 0 by omega]; simp)
        clear HE
        by_cases hn : 0 ≤ n ∧ n ≤ 63
        · have HX := Lib.hid hn
          have HF : Hid (skOk zs n = true) := Lib.hid (by rw [HZ.out]; simpa using hn)
          clear hn HZ
          go_wp2_with (fail)
          go_at_call 65
          refine (NumDiv.in_yes _ _ _ _ HX.out.1 HX.out.2).mono ?_
          rintro e w' ⟨rfl, rfl⟩
          go_wp2
          go_ret
          exact ⟨ret_b HF.out.symm, HB0.out⟩
        · have HX : Hid (n < 0 ∨ 63 < n) := Lib.hid (by omega)
          have HF : Hid (skOk zs n = false) := Lib.hid (by rw [HZ.out]; simpa using hn)
          clear hn HZ
          go_wp2_with (fail)
          go_at_call 65
          refine (NumDiv.in_no _ _ _ _ HX.out).mono ?_
          rintro e w' ⟨rfl, rfl⟩
          go_wp2
          go_ret
          exact ⟨ret_b HF.out.symm, HB0.out⟩
      · have q0 : ((zs.length : Int) == 0) = false := by simpa using h0
        by_cases h6 : (zs.length : Int) = 64
        · have q6 : ((zs.length : Int) == 64) = true := by simpa using h6
          have HZ : Hid (skOk zs n = decide (0 ≤ n ∧ n ≤ 63)) := Lib.hid (by rw [HE.out, show zs.length = 64 by omega]; simp)
          clear HE
          by_cases hn : 0 ≤ n ∧ n ≤ 63
          · have HX := Lib.hid hn
            have HF : Hid (skOk zs n = true) := Lib.hid (by rw [HZ.out]; simpa using hn)
            clear hn HZ
            go_wp2_with (fail)
            go_at_call 65
            refine (NumDiv.in_yes _ _ _ _ HX.out.1 HX.out.2).mono ?_
            rintro e w' ⟨rfl, rfl⟩
            go_wp2
            go_ret
            exact ⟨ret_b HF.out.symm, HB0.out⟩
          · have HX : Hid (n < 0 ∨ 63 < n) := Lib.hid (by omega)
            have HF : Hid (skOk zs n = false) := Lib.hid (by rw [HZ.out]; simpa using hn)
            clear hn HZ
            go_wp2_with (fail)
            go_at_call 65
            refine (NumDiv.in_no _ _ _ _ HX.out).mono ?_
            rintro e w' ⟨rfl, rfl⟩
            go_wp2
            go_ret
            exact ⟨ret_b HF.out.symm, HB0.out⟩
        · have q6 : ((zs.length : Int) == 64) = false := by simpa using h6
          have HF : Hid (skOk zs n = false) := Lib.hid (by rw [HE.out, decide_eq_false (show ¬ zs.length = 0 by omega), decide_eq_false (show ¬ zs.length = 64 by omega)]; rfl)
          clear HE
          go_wp2
          go_ret
          exact ⟨ret_b HF.out.symm, HB0.out⟩

set_option maxHeartbeats 2000000 in
theorem impl_iss (u : Value) (zs : List Int) (n : Int) (w : World) (h : Nums.Holds w u zs) (hl : zs.length ≤ 1048576) :
    Calls Try.prog 38 #[.agg #[u, .int .i64 n]] w (BoolEnd (skOk zs n) w) := by
  have HB0 := Lib.hid ((Below.refl w.heap.size w).alloc (Nat.le_refl _) (.cells #[u, .int .i64 n] 26))
  obtain ⟨a, cap, rfl, ha⟩ := shape_n h
  have HA : Hid (0 < zs.length → ∃ b off, a = some ⟨b, off, none⟩ ∧ Nums.At (w.alloc (.cells #[.slice a zs.length cap, .int .i64 n] 26)) b off zs) := Lib.hid (fun h0 => by
    obtain ⟨b, off, e, hc⟩ := ha h0
    exact ⟨b, off, e, Nums.at_below hc HB0.out (Nums.at_lt hc h0)⟩)
  clear ha h
  go_enter Try.func38, Try.ntmps38
  go_wp2
  go_loop [8] (fun i => ∃ k : Nat, k ≤ zs.length ∧ i = .int .i64 (k : Int) ∧ Hid ((zs.take k).all inTurn = true)) (fun i => zs.length - (intOf i).toNat)
  case atStart => exact ⟨0, Nat.zero_le _, rfl, Lib.hid (by simp)⟩
  case round =>
    obtain ⟨k, hk, rfl, HP⟩ := hrel
    by_cases hlt : k < zs.length
    · obtain ⟨b, off, rfl, hc⟩ := HA.out (by omega)
      have c0 := hc k hlt
      have HM := Lib.hid (all_more hlt HP.out)
      have HN := Lib.hid (all_bad (n := n) hlt)
      clear hc
      generalize zs.getD k 0 = x at c0 HM HN
      have hki : (k : Int) < (zs.length : Int) := by omega
      by_cases hx : 0 ≤ x ∧ x ≤ 64
      · have HE := Lib.hid (HM.out (by unfold inTurn; simpa using hx))
        have HX := Lib.hid hx
        clear HM HN hx
        go_wp2_with (fail)
        go_at_call 67
        refine (within_yes _ _ _ HX.out.1 HX.out.2).mono ?_
        rintro e w' ⟨rfl, rfl⟩
        go_wp2
        go_round
        case rel => exact ⟨k + 1, by omega, by go_num, HE⟩
        case measure => simp [intOf]; omega
      · have HE := Lib.hid (HN.out (by unfold inTurn; simpa using hx))
        have HX : Hid (x < 0 ∨ 64 < x) := Lib.hid (by omega)
        clear HM HN hx
        go_wp2_with (fail)
        go_at_call 67
        refine (within_no _ _ _ HX.out).mono ?_
        rintro e w' ⟨rfl, rfl⟩
        go_wp2
        go_ret
        exact ⟨ret_b HE.out.symm, HB0.out⟩
    · have HE := Lib.hid (all_done (n := n) hlt HP.out)
      by_cases h0 : (zs.length : Int) = 0
      · have q0 : ((zs.length : Int) == 0) = true := by simpa using h0
        have HZ : Hid (skOk zs n = decide (0 ≤ n ∧ n ≤ 63)) := Lib.hid (by rw [HE.out, show zs.length = 0 by omega]; simp)
        clear HE
        by_cases hn : 0 ≤ n ∧ n ≤ 63
        · have HX := Lib.hid hn
          have HF : Hid (skOk zs n = true) := Lib.hid (by rw [HZ.out]; simpa using hn)
          clear hn HZ
          go_wp2_with (fail)
          go_at_call 67
          refine (within_yes _ _ _ HX.out.1 HX.out.2).mono ?_
          rintro e w' ⟨rfl, rfl⟩
          go_wp2
          go_ret
          exact ⟨ret_b HF.out.symm, HB0.out⟩
        · have HX : Hid (n < 0 ∨ 63 < n) := Lib.hid (by omega)
          have HF : Hid (skOk zs n = false) := Lib.hid (by rw [HZ.out]; simpa using hn)
          clear hn HZ
          go_wp2_with (fail)
          go_at_call 67
          refine (within_no _ _ _ HX.out).mono ?_
          rintro e w' ⟨rfl, rfl⟩
          go_wp2
          go_ret
          exact ⟨ret_b HF.out.symm, HB0.out⟩
      · have q0 : ((zs.length : Int) == 0) = false := by simpa using h0
        by_cases h6 : (zs.length : Int) = 64
        · have q6 : ((zs.length : Int) == 64) = true := by simpa using h6
          have HZ : Hid (skOk zs n = decide (0 ≤ n ∧ n ≤ 63)) := Lib.hid (by rw [HE.out, show zs.length = 64 by omega]; simp)
          clear HE
          by_cases hn : 0 ≤ n ∧ n ≤ 63
          · have HX := Lib.hid hn
            have HF : Hid (skOk zs n = true) := Lib.hid (by rw [HZ.out]; simpa using hn)
            clear hn HZ
            go_wp2_with (fail)
            go_at_call 67
            refine (within_yes _ _ _ HX.out.1 HX.out.2).mono ?_
            rintro e w' ⟨rfl, rfl⟩
            go_wp2
            go_ret
            exact ⟨ret_b HF.out.symm, HB0.out⟩
          · have HX : Hid (n < 0 ∨ 63 < n) := Lib.hid (by omega)
            have HF : Hid (skOk zs n = false) := Lib.hid (by rw [HZ.out]; simpa using hn)
            clear hn HZ
            go_wp2_with (fail)
            go_at_call 67
            refine (within_no _ _ _ HX.out).mono ?_
            rintro e w' ⟨rfl, rfl⟩
            go_wp2
            go_ret
            exact ⟨ret_b HF.out.symm, HB0.out⟩
        · have q6 : ((zs.length : Int) == 64) = false := by simpa using h6
          have HF : Hid (skOk zs n = false) := Lib.hid (by rw [HE.out, decide_eq_false (show ¬ zs.length = 0 by omega), decide_eq_false (show ¬ zs.length = 64 by omega)]; rfl)
          clear HE
          go_wp2
          go_ret
          exact ⟨ret_b HF.out.symm, HB0.out⟩
end Go.Proofs.Ytebkhailknbnhaa.Sk
