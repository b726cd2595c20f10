/-
  CONTRACTS of both sides' tests of the bytes of tokens, and of IsToken: each returns what the rule says; the world stays as it was.
-/
import Derived.Test.YtobhdfkhfmpdlaaDoorTxMath
import Derived.Test.YtobhdfkhfmpdlaaDoorNumIn
import Derived.Test.YtobhdfkhfmpdlaaDoorUp
import Derived.Test.YtobhdfkhfmpdlaaDoorShelf
import Derived.LoopTactic
namespace Go.Proofs.YtobhdfkhfmpdlaaDoor.Tx
open Go Go.RowKit
set_option linter.unusedVariables false
set_option maxRecDepth 1000000

/-! the marks -/
def mk (c : UInt8) : Int := Lib.indexByte marks c
theorem index_contains (l : List UInt8) (c : UInt8) : 0 ≤ Lib.indexByte l c ↔ l.contains c = true := by
  induction l with
  | nil => simp [Lib.indexByte]
  | cons a r ih =>
    unfold Lib.indexByte
    by_cases h : a == c
    · rw [if_pos h]
      have : a = c := by simpa using h
      subst this; simp
    · rw [if_neg h]
      have h' : a ≠ c := by simpa using h
      have hm : (a :: r).contains c = r.contains c := by
        simp only [List.contains_cons]
        have : (c == a) = false := by rw [beq_eq_false_iff_ne]; exact fun e => h' e.symm
        rw [this, Bool.false_or]
      rw [hm, ← ih]
      by_cases h1 : Lib.indexByte r c == -1
      · rw [if_pos h1]
        have : Lib.indexByte r c = -1 := by simpa using h1
        omega
      · rw [if_neg h1]
        have h2 : Lib.indexByte r c ≠ -1 := by simpa using h1
        have h3 : -1 ≤ Lib.indexByte r c := by
          clear ih h1 h2 hm
          induction r with
          | nil => simp [Lib.indexByte]
          | cons b t ih2 =>
            unfold Lib.indexByte
            split
            · omega
            · split
              · omega
              · omega
        omega
theorem mk_ge {c : UInt8} : 0 ≤ mk c ↔ marks.contains c = true := index_contains marks c
theorem idx_byte (c : UInt8) (w : World) :
    Calls Tryd.prog 96 #[.string ⟨#[33, 35, 36, 37, 38, 39, 42, 43, 45, 46, 94, 95, 124, 126, 96]⟩, .int .u8 (c.toNat : Int)] w fun e w' => e = .returned (.int .i64 (mk c)) ∧ w = w' := by
  refine (Tryd.strings_IndexByte _ _ _).mono ?_
  rintro e w' ⟨rfl, rfl⟩
  refine ⟨?_, rfl⟩
  have : ((c.toNat : Int).toNat.toUInt8) = c := by simp
  rw [this]; rfl

theorem tokc_let {c : UInt8} (h : letc c = true) : tokc c = true := by unfold tokc; rw [h, Bool.or_true]
theorem tokc_no {c : UInt8} (h : letc c = false) : tokc c = marks.contains c := by unfold tokc; rw [h, Bool.or_false]

set_option maxHeartbeats 1000000 in
theorem tok_byte (c : UInt8) (w : World) : Calls Tryd.prog 81 #[.int .u8 (c.toNat : Int)] w fun e w' => e = .returned (.bool (tokc c)) ∧ w = w' := by
  by_cases hl : letc c = true
  · rw [tokc_let hl]
    have h3 : (97 ≤ (c.toNat : Int) ∧ (c.toNat : Int) ≤ 122) ∨ (65 ≤ (c.toNat : Int) ∧ (c.toNat : Int) ≤ 90) ∨ (48 ≤ (c.toNat : Int) ∧ (c.toNat : Int) ≤ 57) := by
      unfold letc at hl; simp at hl; omega
    clear hl
    rcases h3 with ⟨h1, h2⟩ | ⟨h1, h2⟩ | ⟨h1, h2⟩
    · go_enter Tryd.func81, Tryd.ntmps81
      go_wp2
      go_ret
      exact ⟨rfl, rfl⟩
    · have h3 : ¬ 97 ≤ (c.toNat : Int) := by omega
      go_enter Tryd.func81, Tryd.ntmps81
      go_wp2_with (go_at_call 38; refine (up_yes _ _ h1 h2).mono ?_; rintro e w' ⟨rfl, rfl⟩)
      go_ret
      exact ⟨rfl, rfl⟩
    · have h3 : ¬ 97 ≤ (c.toNat : Int) := by omega
      have h4 : (c.toNat : Int) < 65 ∨ 90 < (c.toNat : Int) := by omega
      have H4 := Lib.hid h4
      clear h4
      go_enter Tryd.func81, Tryd.ntmps81
      go_wp2_with (go_at_call 38; refine (up_no _ _ H4.out).mono ?_; rintro e w' ⟨rfl, rfl⟩)
      go_ret
      exact ⟨rfl, rfl⟩
  · have hl' : letc c = false := by simpa using hl
    rw [tokc_no hl']
    have h3 : ((c.toNat : Int) < 97 ∨ 122 < (c.toNat : Int)) ∧ ((c.toNat : Int) < 65 ∨ 90 < (c.toNat : Int)) ∧ ((c.toNat : Int) < 48 ∨ 57 < (c.toNat : Int)) := by
      unfold letc at hl'; simp at hl'; omega
    clear hl hl'
    obtain ⟨h1, h4, h5⟩ := h3
    have H4 := Lib.hid h4
    clear h4
    have hm : 0 ≤ mk c ↔ marks.contains c = true := mk_ge
    rcases hmk : marks.contains c with _ | _
    · have h6 : ¬ 0 ≤ mk c := by rw [hm, hmk]; simp
      clear hm hmk
      rcases h1 with h1 | h1 <;> rcases h5 with h5 | h5
      all_goals first | (exfalso; omega) | skip
      · have g1 : ¬ 97 ≤ (c.toNat : Int) := by omega
        have g2 : ¬ 48 ≤ (c.toNat : Int) := by omega
        clear h1 h5
        go_enter Tryd.func81, Tryd.ntmps81
        go_wp2_with (first | (go_at_call 38; refine (up_no _ _ H4.out).mono ?_; rintro e w' ⟨rfl, rfl⟩) | (go_at_call 96; refine (idx_byte c _).mono ?_; rintro e w' ⟨rfl, rfl⟩))
        go_ret
        first | exact ⟨rfl, rfl⟩ | exact ⟨ret_bool (by simp; omega), rfl⟩
      · have g1 : ¬ 97 ≤ (c.toNat : Int) := by omega
        have g2 : 48 ≤ (c.toNat : Int) := by omega
        have g3 : ¬ (c.toNat : Int) ≤ 57 := by omega
        clear h1 h5
        go_enter Tryd.func81, Tryd.ntmps81
        go_wp2_with (first | (go_at_call 38; refine (up_no _ _ H4.out).mono ?_; rintro e w' ⟨rfl, rfl⟩) | (go_at_call 96; refine (idx_byte c _).mono ?_; rintro e w' ⟨rfl, rfl⟩))
        go_ret
        first | exact ⟨rfl, rfl⟩ | exact ⟨ret_bool (by simp; omega), rfl⟩
      · have g1 : 97 ≤ (c.toNat : Int) := by omega
        have g2 : 48 ≤ (c.toNat : Int) := by omega
        have g3 : ¬ (c.toNat : Int) ≤ 57 := by omega
        have g4 : ¬ (c.toNat : Int) ≤ 122 := by omega
        clear h1 h5
        go_enter Tryd.func81, Tryd.ntmps81
        go_wp2_with (first | (go_at_call 38; refine (up_no _ _ H4.out).mono ?_; rintro e w' ⟨rfl, rfl⟩) | (go_at_call 96; refine (idx_byte c _).mono ?_; rintro e w' ⟨rfl, rfl⟩))
        go_ret
        first | exact ⟨rfl, rfl⟩ | exact ⟨ret_bool (by simp; omega), rfl⟩
    · have h6 : 0 ≤ mk c := by rw [hm]; exact hmk
      clear hm hmk
      rcases h1 with h1 | h1 <;> rcases h5 with h5 | h5
      all_goals first | (exfalso; omega) | skip
      · have g1 : ¬ 97 ≤ (c.toNat : Int) := by omega
        have g2 : ¬ 48 ≤ (c.toNat : Int) := by omega
        clear h1 h5
        go_enter Tryd.func81, Tryd.ntmps81
        go_wp2_with (first | (go_at_call 38; refine (up_no _ _ H4.out).mono ?_; rintro e w' ⟨rfl, rfl⟩) | (go_at_call 96; refine (idx_byte c _).mono ?_; rintro e w' ⟨rfl, rfl⟩))
        go_ret
        first | exact ⟨rfl, rfl⟩ | exact ⟨ret_bool (by simp; omega), rfl⟩
      · have g1 : ¬ 97 ≤ (c.toNat : Int) := by omega
        have g2 : 48 ≤ (c.toNat : Int) := by omega
        have g3 : ¬ (c.toNat : Int) ≤ 57 := by omega
        clear h1 h5
        go_enter Tryd.func81, Tryd.ntmps81
        go_wp2_with (first | (go_at_call 38; refine (up_no _ _ H4.out).mono ?_; rintro e w' ⟨rfl, rfl⟩) | (go_at_call 96; refine (idx_byte c _).mono ?_; rintro e w' ⟨rfl, rfl⟩))
        go_ret
        first | exact ⟨rfl, rfl⟩ | exact ⟨ret_bool (by simp; omega), rfl⟩
      · have g1 : 97 ≤ (c.toNat : Int) := by omega
        have g2 : 48 ≤ (c.toNat : Int) := by omega
        have g3 : ¬ (c.toNat : Int) ≤ 57 := by omega
        have g4 : ¬ (c.toNat : Int) ≤ 122 := by omega
        clear h1 h5
        go_enter Tryd.func81, Tryd.ntmps81
        go_wp2_with (first | (go_at_call 38; refine (up_no _ _ H4.out).mono ?_; rintro e w' ⟨rfl, rfl⟩) | (go_at_call 96; refine (idx_byte c _).mono ?_; rintro e w' ⟨rfl, rfl⟩))
        go_ret
        first | exact ⟨rfl, rfl⟩ | exact ⟨ret_bool (by simp; omega), rfl⟩

theorem in_byte (c : UInt8) (lo hi : Int) (w : World) :
    Calls Tryd.prog 70 #[.int .i64 (c.toNat : Int), .int .i64 lo, .int .i64 hi] w fun e w' => e = .returned (.bool (decide (lo ≤ (c.toNat : Int) ∧ (c.toNat : Int) ≤ hi))) ∧ w = w' := by
  by_cases h : lo ≤ (c.toNat : Int) ∧ (c.toNat : Int) ≤ hi
  · refine (NumDiv.in_yes _ _ _ _ h.1 h.2).mono ?_
    rintro e w' ⟨rfl, rfl⟩
    exact ⟨ret_bool (by simp [h]), rfl⟩
  · refine (NumDiv.in_no _ _ _ _ (by omega)).mono ?_
    rintro e w' ⟨rfl, rfl⟩
    exact ⟨ret_bool (by simp only [h, decide_false]), rfl⟩

set_option maxHeartbeats 1000000 in
theorem letter_byte (c : UInt8) (w : World) : Calls Tryd.prog 85 #[.int .u8 (c.toNat : Int)] w fun e w' => e = .returned (.bool (letc c)) ∧ w = w' := by
  have hub : (c.toNat : Int) ≤ 255 := by have := c.toNat_lt; omega
  have hub0 : 0 ≤ (c.toNat : Int) := by omega
  by_cases h1 : 97 ≤ (c.toNat : Int) ∧ (c.toNat : Int) ≤ 122
  · have e : letc c = true := by unfold letc; simp; omega
    rw [e]; clear e
    obtain ⟨a, b⟩ := h1
    go_enter Tryd.func85, Tryd.ntmps85
    go_wp2_with (go_at_call 70; (with_reducible refine (NumDiv.in_yes _ _ _ _ a b).mono ?_); rintro e w' ⟨rfl, rfl⟩)
    go_ret
    exact ⟨rfl, rfl⟩
  · have H1 := Lib.hid (show (c.toNat : Int) < 97 ∨ 122 < (c.toNat : Int) by omega)
    by_cases h2 : 65 ≤ (c.toNat : Int) ∧ (c.toNat : Int) ≤ 90
    · have e : letc c = true := by unfold letc; simp; omega
      rw [e]; clear e h1
      obtain ⟨a, b⟩ := h2
      go_enter Tryd.func85, Tryd.ntmps85
      go_wp2_with (fail)
      go_at_call 70
      refine (NumDiv.in_no _ _ _ _ H1.out).mono ?_
      rintro e w' ⟨rfl, rfl⟩
      go_wp2_with (fail)
      go_at_call 70
      refine (NumDiv.in_yes _ _ _ _ a b).mono ?_
      rintro e w' ⟨rfl, rfl⟩
      go_wp2
      go_ret
      exact ⟨rfl, rfl⟩
    · have H2 := Lib.hid (show (c.toNat : Int) < 65 ∨ 90 < (c.toNat : Int) by omega)
      have e : letc c = decide (48 ≤ (c.toNat : Int) ∧ (c.toNat : Int) ≤ 57) := by unfold letc; rw [Bool.eq_iff_iff]; simp; omega
      rw [e]; clear e h1 h2
      go_enter Tryd.func85, Tryd.ntmps85
      go_wp2_with (fail)
      go_at_call 70
      refine (NumDiv.in_no _ _ _ _ H1.out).mono ?_
      rintro e w' ⟨rfl, rfl⟩
      go_wp2_with (fail)
      go_at_call 70
      refine (NumDiv.in_no _ _ _ _ H2.out).mono ?_
      rintro e w' ⟨rfl, rfl⟩
      go_wp2_with (fail)
      go_at_call 70
      refine (in_byte c 48 57 _).mono ?_
      rintro e w' ⟨rfl, rfl⟩
      go_wp2
      go_ret
      exact ⟨ret_bool (by rw [Bool.decide_and]), rfl⟩

def mka (k : Nat) : UInt8 := marks.getD k 0
/-- The table of marks, read at a place. -/
theorem tab_fin : ∀ r : Fin 15, (⟨#[33, 35, 36, 37, 38, 39, 42, 43, 45, 46, 94, 95, 124, 126, 96]⟩ : ByteArray)[r.1]'(r.2) = mka r.1 := by decide
theorem tab_at (u : Nat) (h : u < (⟨#[33, 35, 36, 37, 38, 39, 42, 43, 45, 46, 94, 95, 124, 126, 96]⟩ : ByteArray).size) :
    ((⟨#[33, 35, 36, 37, 38, 39, 42, 43, 45, 46, 94, 95, 124, 126, 96]⟩ : ByteArray)[u]'h) = mka u := tab_fin ⟨u, h⟩
theorem mark_in {c : UInt8} {k : Nat} (h : k < 15) (e : mka k = c) : tokc c = true := by
  unfold tokc
  have : marks.contains c = true := by
    rw [← e]
    have hl : k < marks.length := h
    rw [show mka k = marks[k]'hl by unfold mka; simp [List.getD, hl]]
    simp
  rw [this, Bool.true_or]
theorem mark_out {c : UInt8} (h : ∀ j, j < 15 → mka j ≠ c) : tokc c = letc c := by
  unfold tokc
  have : marks.contains c = false := by
    rw [Bool.eq_false_iff]
    intro hc
    have hm : c ∈ marks := by simpa using hc
    obtain ⟨j, hj, e⟩ := List.getElem_of_mem hm
    have hl : marks.length = 15 := rfl
    exact h j (by omega) (by unfold mka; simp [List.getD, hj, e])
  rw [this, Bool.false_or]

set_option maxHeartbeats 1000000 in
theorem tok_spec (c : UInt8) (w : World) : Calls Tryd.prog 71 #[.int .u8 (c.toNat : Int)] w fun e w' => e = .returned (.bool (tokc c)) ∧ w = w' := by
  go_enter Tryd.func71, Tryd.ntmps71
  go_wp2
  go_loop [3] (fun i => ∃ k : Nat, k ≤ 15 ∧ i = .int .i64 k ∧ ∀ j, j < k → mka j ≠ c) (fun i => 15 - (intOf i).toNat)
  case atStart => exact ⟨0, by omega, rfl, fun j hj => absurd hj (by omega)⟩
  case round =>
    obtain ⟨k, hk, rfl, hno⟩ := hrel
    have HN := Lib.hid hno
    clear hno
    by_cases hlt : k < 15
    · have htab := tab_at k
      by_cases hc : mka k = c
      · have HT := Lib.hid (mark_in hlt hc)
        have hq : ((c.toNat : Int) == ((mka k).toNat : Int)) = true := by rw [hc]; simp
        clear hc
        go_wp2
        go_ret
        exact ⟨ret_bool HT.out.symm, rfl⟩
      · have hq : ((c.toNat : Int) == ((mka k).toNat : Int)) = false := by
          rw [beq_eq_false_iff_ne]
          intro e
          exact hc (UInt8.toNat_inj.1 (by omega))
        have HC := Lib.hid hc
        clear hc
        go_wp2
        go_round
        case rel => exact ⟨k + 1, by omega, by go_num, fun j hj => by
          rcases Nat.lt_or_ge j k with h | h
          · exact HN.out j h
          · have : j = k := by omega
            subst this; exact HC.out⟩
        case measure => simp [intOf]; omega
    · obtain rfl : k = 15 := by omega
      have HT := Lib.hid (mark_out HN.out)
      go_wp2_with (go_at_call 85; refine (letter_byte c _).mono ?_; rintro e w' ⟨rfl, rfl⟩)
      go_ret
      exact ⟨ret_bool HT.out.symm, rfl⟩
end Go.Proofs.YtobhdfkhfmpdlaaDoor.Tx
