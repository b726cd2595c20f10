/-
  CONTRACTS of hasBytes, canBeInSet and IsSpanSet, the model's and the program's; nothing that was there before is changed.
-/
import Derived.Test.YtegaakgmfphcaaaSpn
import Derived.Test.YtegaakgmfphcaaaSpnM2
import Derived.LoopTactic
import Derived.Outline
import Derived.RegionTactic
import Derived.Deep.RegionWith
import Derived.Deep.QuietTactic
import Derived.BigQuiet
import Derived.IntWalk
namespace Go.Proofs.Ytegaakgmfphcaaa.Spn
open Go Go.RowKit
set_option linter.unusedVariables false
set_option maxRecDepth 1000000

def BoolEnd (b : Bool) (w : World) (e : Ending) (w' : World) : Prop := e = .returned (.bool b) ∧ Below w.heap.size w w'
theorem ret_bool {a b : Bool} (h : a = b) : Ending.returned (.bool a) = .returned (.bool b) := by rw [h]
theorem has_bytes (a b : Int) (w : World) : Calls Try.prog 26 #[.agg #[.int .i64 a, .int .i64 b]] w (BoolEnd (decide (a < b)) w) := by
  go_enter Try.func26, Try.ntmps26
  go_wp2
  go_ret
  exact ⟨rfl, (Below.refl _ _).alloc (Nat.le_refl _) _⟩
set_option maxHeartbeats 1000000 in
theorem can_be (a b : Int) (w : World) : Calls Try.prog 21 #[.agg #[.int .i64 a, .int .i64 b]] w (BoolEnd (can (a, b)) w) := by
  have HB0 : Hid (Below w.heap.size w (w.alloc (.cells #[.int .i64 a, .int .i64 b] 26))) := Lib.hid ((Below.refl _ _).alloc (Nat.le_refl _) _)
  have HH := Lib.hid (has_bytes a b)
  by_cases h1 : a < 0
  · have h1' : ¬ 0 ≤ a := by omega
    have HC := Lib.hid (can_bad (x := (a, b)) (Or.inl h1))
    go_enter Try.func21, Try.ntmps21
    go_wp2
    go_ret
    exact ⟨ret_bool HC.out.symm, HB0.out⟩
  · have h1' : 0 ≤ a := by omega
    by_cases h2 : a < b
    · have HD : Hid (decide (a < b) = true) := Lib.hid (by simpa using h2)
      have HC : Hid (can (a, b) = decide (b ≤ 1000000000000)) := Lib.hid (by unfold can; simp [h1', h2])
      have HK : Hid (∀ w1, Below (w.alloc (.cells #[.int .i64 a, .int .i64 b] 26)).heap.size (w.alloc (.cells #[.int .i64 a, .int .i64 b] 26)) w1 → w1.cell? ⟨w.heap.size, 1, none⟩ = some (.int .i64 b)) := Lib.hid (fun w1 h => by rw [h.cell (p := ⟨w.heap.size, 1, none⟩) (by simp), World.cell?_alloc_new]; rfl)
      go_enter Try.func21, Try.ntmps21
      go_wp2_with (fail)
      go_at_call 26
      refine (HH.out _).mono ?_
      rintro e w1 ⟨he, hb⟩
      rw [HD.out] at he
      subst he
      have hc := HK.out _ hb
      have HB := Lib.hid (HB0.out.trans (hb.mono (by simp)))
      clear hb
      go_wp2
      all_goals go_ret
      all_goals exact ⟨ret_bool (by rw [HC.out]), HB.out⟩
    · have HD : Hid (decide (a < b) = false) := Lib.hid (by simpa using h2)
      have HC := Lib.hid (can_bad (x := (a, b)) (Or.inr (Or.inl (by show b ≤ a; omega))))
      go_enter Try.func21, Try.ntmps21
      go_wp2_with (fail)
      go_at_call 26
      refine (HH.out _).mono ?_
      rintro e w1 ⟨he, hb⟩
      rw [HD.out] at he
      subst he
      have HB := Lib.hid (HB0.out.trans (hb.mono (by simp)))
      clear hb
      go_wp2
      go_ret
      exact ⟨ret_bool HC.out.symm, HB.out⟩

theorem shape {w : World} {B : Nat} {v : Value} {l : List T} (h : Holds w B v l) : ∃ a cap, v = .slice a l.length cap ∧ (0 < l.length → ∃ b off, a = some ⟨b, off, none⟩ ∧ b < B ∧ l.length ≤ cap ∧ At w b off l) := by
  rcases h with ⟨rfl, a, cap, rfl⟩ | ⟨h0, b, off, cap, rfl, hb, hcap, hc⟩
  · exact ⟨a, cap, rfl, fun h => by simp at h⟩
  · exact ⟨_, cap, rfl, fun _ => ⟨b, off, rfl, hb, hcap, hc⟩⟩

set_option maxHeartbeats 4000000 in
theorem spec_set (v : Value) (B : Nat) (l : List T) (w : World) (h : Holds w B v l) (hB : B ≤ w.heap.size) (hl : l.length ≤ 4194304) :
    Calls Try.prog 9 #[v] w (BoolEnd (isSet l) w) := by
  obtain ⟨a, cap, rfl, ha⟩ := shape h
  have HA := Lib.hid ha
  have HZ := Lib.hid (set_zero l)
  clear ha h
  go_enter Try.func9, Try.ntmps9
  go_wp2
  go_loopw [3] (fun i wr => ∃ k : Nat, k ≤ l.length ∧ i = .int .i64 (k : Int) ∧ Hid (isSet (l.take k) = true) ∧ Below w.heap.size w wr) (fun i _ => l.length - (intOf i).toNat)
  case atStart => exact ⟨0, Nat.zero_le _, rfl, HZ, Below.refl _ _⟩
  case round =>
    obtain ⟨k, hk, rfl, HP, hb⟩ := hrel
    have HB := Lib.hid hb
    by_cases hlt : k < l.length
    · obtain ⟨b, off, rfl, hbw, hcap, hc⟩ := HA.out (by omega)
      have hat := at_below hc hb (Nat.lt_of_lt_of_le hbw hB)
      obtain ⟨c0, c1⟩ := at_cells hat hlt
      have HAT := Lib.hid hat
      have HS := Lib.hid (fun h1 h2 => set_step (l := l) hlt HP.out h1 h2)
      have HN := Lib.hid (fun h1 => set_bad (l := l) hlt h1)
      clear hb hc hat
      have hn : l.getD k nov = l.getD k nos := rfl
      rw [hn] at c0 c1
      clear hn
      generalize hx : l.getD k nos = x at c0 c1 HS HN
      clear hx
      obtain ⟨x, y⟩ := x
      simp only at c0 c1 HS HN
      have hki : (k : Int) < (l.length : Int) := by omega
      by_cases h1 : x < 0
      · have HE := Lib.hid (HN.out (Or.inl (can_bad (Or.inl h1))))
        have d1 : decide (x < 0) = true := by simpa using h1
        clear HS HN
        go_wp2
        go_quiet (fail)
        go_wp2
        go_ret
        exact ⟨ret_bool HE.out.symm, Rec.below_drewN HB.out _⟩
      · have d1 : decide (x < 0) = false := by simpa using h1
        by_cases h2 : y ≤ x
        · have HE := Lib.hid (HN.out (Or.inl (can_bad (Or.inr (Or.inl h2)))))
          have d2 : decide (y ≤ x) = true := by simpa using h2
          clear HS HN
          go_wp2
          go_quiet (fail)
          go_wp2
          go_ret
          exact ⟨ret_bool HE.out.symm, Rec.below_drewN HB.out _⟩
        · have d2 : decide (y ≤ x) = false := by simpa using h2
          by_cases h3 : 1000000000000 < y
          · have HE := Lib.hid (HN.out (Or.inl (can_bad (Or.inr (Or.inr h3)))))
            have d3 : decide (1000000000000 < y) = true := by simpa using h3
            clear HS HN
            go_wp2
            go_quiet (fail)
            go_wp2
            go_ret
            exact ⟨ret_bool HE.out.symm, Rec.below_drewN HB.out _⟩
          · have d3 : decide (1000000000000 < y) = false := by simpa using h3
            have HCAN : Hid (can (x, y) = true) := Lib.hid (by rw [can_iff]; simp only; omega)
            by_cases h4 : 0 < k
            · have h4' : 0 < (k : Int) := by omega
              have d4 : decide (0 < (k : Int)) = true := by simpa using h4'
              obtain ⟨p0, p1⟩ := at_cells HAT.out (j := k - 1) (by omega)
              have hn : l.getD (k - 1) nov = l.getD (k - 1) nos := rfl
              rw [hn] at p0 p1
              generalize (l.getD (k - 1) nos) = z at p0 p1 HS HN
              obtain ⟨z0, z1⟩ := z
              simp only at p0 p1 HS HN
              have hk1 : ((k : Int) - 1).toNat = k - 1 := by omega
              have hkb : 0 ≤ (k : Int) - 1 := by omega
              have hkc : (k : Int) - 1 < (l.length : Int) := by omega
              have hw1 : IntKind.i64.wrap ((k : Int) - 1) = (k : Int) - 1 := IntWalk.i64_in _ (by omega)
              clear p0 hn
              by_cases h5 : x ≤ z1
              · have d5 : decide (x ≤ z1) = true := by simpa using h5
                have HE := Lib.hid (HN.out (Or.inr ⟨h4, h5⟩))
                clear HS HN
                go_wp2
                go_quiet (fail)
                go_wp2
                go_ret
                exact ⟨ret_bool HE.out.symm, Rec.below_drewN HB.out _⟩
              · have d5 : decide (x ≤ z1) = false := by simpa using h5
                have HE := Lib.hid (HS.out HCAN.out (Or.inr (by omega)))
                clear HS HN
                go_wp2
                go_quiet (fail)
                go_wp2
                go_roundw
                case rel => exact ⟨k + 1, by omega, by go_num, HE, Rec.below_drewN HB.out _⟩
                case measure => simp [intOf]; omega
            · have d4 : decide (0 < (k : Int)) = false := by simp; omega
              have HE := Lib.hid (HS.out HCAN.out (Or.inl (by omega)))
              clear HS HN
              go_wp2
              go_quiet (fail)
              go_wp2
              go_roundw
              case rel => exact ⟨k + 1, by omega, by go_num, HE, Rec.below_drewN HB.out _⟩
              case measure => simp [intOf]; omega
    · have HE := Lib.hid (set_all hlt HP.out)
      clear hb
      go_wp2
      go_ret
      exact ⟨ret_bool HE.out.symm, HB.out⟩
end Go.Proofs.Ytegaakgmfphcaaa.Spn
