/-
  CONTRACTS AND PLAIN FACTS, several texts in one; each says in its own words what it proves.
-/
import Derived.Test.YtndbhjgfaghelaaGreatDoorPartA
import Derived.Test.YtndbhjgfaghelaaGreatDoorPartB
import Derived.Test.YtndbhjgfaghelaaGreatDoorPartC
import Derived.LoopTactic
import Derived.Laws.IdiomStrings
import Derived.Laws.BytesArg
import Derived.OwnWalk
import Derived.Laws.OwnMore
import Derived.Laws.AppendOwn
set_option linter.unusedSimpArgs false
set_option linter.unusedVariables false

/-
  CONTRACTS of both sides' tests of the bytes of tokens, and of IsToken: each returns what the rule says; the world stays as it was.
-/
namespace Go.Proofs.YtndbhjgfaghelaaGreatDoor.Tx
open Go Go.RowKit
set_option linter.unusedVariables false
set_option maxRecDepth 1000000

/-! the marks -/
def mk (c : UInt8) : Int := Lib.indexByte marks c
theorem index_contains (l : List UInt8) (c : UInt8) : 0 ≤ Lib.indexByte l c ↔ l.contains c = true := by
  induction l with
  | nil => simp [Lib.indexByte]
  | cons a r ih =>
    unfold Lib.indexByte
    by_cases h : a == c
    · rw [if_pos h]
      have : a = c := by simpa using h
      subst this; simp
    · rw [if_neg h]
      have h' : a ≠ c := by simpa using h
      have hm : (a :: r).contains c = r.contains c := by
        simp only [List.contains_cons]
        have : (c == a) = false := by rw [beq_eq_false_iff_ne]; exact fun e => h' e.symm
        rw [this, Bool.false_or]
      rw [hm, ← ih]
      by_cases h1 : Lib.indexByte r c == -1
      · rw [if_pos h1]
        have : Lib.indexByte r c = -1 := by simpa using h1
        omega
      · rw [if_neg h1]
        have h2 : Lib.indexByte r c ≠ -1 := by simpa using h1
        have h3 : -1 ≤ Lib.indexByte r c := by
          clear ih h1 h2 hm
          induction r with
          | nil => simp [Lib.indexByte]
          | cons b t ih2 =>
            unfold Lib.indexByte
            split
            · omega
            · split
              · omega
              · omega
        omega
theorem mk_ge {c : UInt8} : 0 ≤ mk c ↔ marks.contains c = true := index_contains marks c
theorem idx_byte (c : UInt8) (w : World) :
    Calls Tryz.prog 211 #[.string ⟨#[33, 35, 36, 37, 38, 39, 42, 43, 45, 46, 94, 95, 124, 126, 96]⟩, .int .u8 (c.toNat : Int)] w fun e w' => e = .returned (.int .i64 (mk c)) ∧ w = w' := by
  refine (Tryz.strings_IndexByte _ _ _).mono ?_
  rintro e w' ⟨rfl, rfl⟩
  refine ⟨?_, rfl⟩
  have : ((c.toNat : Int).toNat.toUInt8) = c := by simp
  rw [this]; rfl

theorem tokc_let {c : UInt8} (h : letc c = true) : tokc c = true := by unfold tokc; rw [h, Bool.or_true]
theorem tokc_no {c : UInt8} (h : letc c = false) : tokc c = marks.contains c := by unfold tokc; rw [h, Bool.or_false]

set_option maxHeartbeats 1000000 in
theorem tok_byte (c : UInt8) (w : World) : Calls Tryz.prog 156 #[.int .u8 (c.toNat : Int)] w fun e w' => e = .returned (.bool (tokc c)) ∧ w = w' := by
  by_cases hl : letc c = true
  · rw [tokc_let hl]
    have h3 : (97 ≤ (c.toNat : Int) ∧ (c.toNat : Int) ≤ 122) ∨ (65 ≤ (c.toNat : Int) ∧ (c.toNat : Int) ≤ 90) ∨ (48 ≤ (c.toNat : Int) ∧ (c.toNat : Int) ≤ 57) := by
      unfold letc at hl; simp at hl; omega
    clear hl
    rcases h3 with ⟨h1, h2⟩ | ⟨h1, h2⟩ | ⟨h1, h2⟩
    · go_enter Tryz.func156, Tryz.ntmps156
      go_wp2
      go_ret
      exact ⟨rfl, rfl⟩
    · have h3 : ¬ 97 ≤ (c.toNat : Int) := by omega
      go_enter Tryz.func156, Tryz.ntmps156
      go_wp2_with (go_at_call 157; refine (up_yes _ _ h1 h2).mono ?_; rintro e w' ⟨rfl, rfl⟩)
      go_ret
      exact ⟨rfl, rfl⟩
    · have h3 : ¬ 97 ≤ (c.toNat : Int) := by omega
      have h4 : (c.toNat : Int) < 65 ∨ 90 < (c.toNat : Int) := by omega
      have H4 := Lib.hid h4
      clear h4
      go_enter Tryz.func156, Tryz.ntmps156
      go_wp2_with (go_at_call 157; refine (up_no _ _ H4.out).mono ?_; rintro e w' ⟨rfl, rfl⟩)
      go_ret
      exact ⟨rfl, rfl⟩
  · have hl' : letc c = false := by simpa using hl
    rw [tokc_no hl']
    have h3 : ((c.toNat : Int) < 97 ∨ 122 < (c.toNat : Int)) ∧ ((c.toNat : Int) < 65 ∨ 90 < (c.toNat : Int)) ∧ ((c.toNat : Int) < 48 ∨ 57 < (c.toNat : Int)) := by
      unfold letc at hl'; simp at hl'; omega
    clear hl hl'
    obtain ⟨h1, h4, h5⟩ := h3
    have H4 := Lib.hid h4
    clear h4
    have hm : 0 ≤ mk c ↔ marks.contains c = true := mk_ge
    rcases hmk : marks.contains c with _ | _
    · have h6 : ¬ 0 ≤ mk c := by rw [hm, hmk]; simp
      clear hm hmk
      rcases h1 with h1 | h1 <;> rcases h5 with h5 | h5
      all_goals first | (exfalso; omega) | skip
      · have g1 : ¬ 97 ≤ (c.toNat : Int) := by omega
        have g2 : ¬ 48 ≤ (c.toNat : Int) := by omega
        clear h1 h5
        go_enter Tryz.func156, Tryz.ntmps156
        go_wp2_with (first | (go_at_call 157; refine (up_no _ _ H4.out).mono ?_; rintro e w' ⟨rfl, rfl⟩) | (go_at_call 211; refine (idx_byte c _).mono ?_; rintro e w' ⟨rfl, rfl⟩))
        go_ret
        first | exact ⟨rfl, rfl⟩ | exact ⟨ret_bool (by simp; omega), rfl⟩
      · have g1 : ¬ 97 ≤ (c.toNat : Int) := by omega
        have g2 : 48 ≤ (c.toNat : Int) := by omega
        have g3 : ¬ (c.toNat : Int) ≤ 57 := by omega
        clear h1 h5
        go_enter Tryz.func156, Tryz.ntmps156
        go_wp2_with (first | (go_at_call 157; refine (up_no _ _ H4.out).mono ?_; rintro e w' ⟨rfl, rfl⟩) | (go_at_call 211; refine (idx_byte c _).mono ?_; rintro e w' ⟨rfl, rfl⟩))
        go_ret
        first | exact ⟨rfl, rfl⟩ | exact ⟨ret_bool (by simp; omega), rfl⟩
      · have g1 : 97 ≤ (c.toNat : Int) := by omega
        have g2 : 48 ≤ (c.toNat : Int) := by omega
        have g3 : ¬ (c.toNat : Int) ≤ 57 := by omega
        have g4 : ¬ (c.toNat : Int) ≤ 122 := by omega
        clear h1 h5
        go_enter Tryz.func156, Tryz.ntmps156
        go_wp2_with (first | (go_at_call 157; refine (up_no _ _ H4.out).mono ?_; rintro e w' ⟨rfl, rfl⟩) | (go_at_call 211; refine (idx_byte c _).mono ?_; rintro e w' ⟨rfl, rfl⟩))
        go_ret
        first | exact ⟨rfl, rfl⟩ | exact ⟨ret_bool (by simp; omega), rfl⟩
    · have h6 : 0 ≤ mk c := by rw [hm]; exact hmk
      clear hm hmk
      rcases h1 with h1 | h1 <;> rcases h5 with h5 | h5
      all_goals first | (exfalso; omega) | skip
      · have g1 : ¬ 97 ≤ (c.toNat : Int) := by omega
        have g2 : ¬ 48 ≤ (c.toNat : Int) := by omega
        clear h1 h5
        go_enter Tryz.func156, Tryz.ntmps156
        go_wp2_with (first | (go_at_call 157; refine (up_no _ _ H4.out).mono ?_; rintro e w' ⟨rfl, rfl⟩) | (go_at_call 211; refine (idx_byte c _).mono ?_; rintro e w' ⟨rfl, rfl⟩))
        go_ret
        first | exact ⟨rfl, rfl⟩ | exact ⟨ret_bool (by simp; omega), rfl⟩
      · have g1 : ¬ 97 ≤ (c.toNat : Int) := by omega
        have g2 : 48 ≤ (c.toNat : Int) := by omega
        have g3 : ¬ (c.toNat : Int) ≤ 57 := by omega
        clear h1 h5
        go_enter Tryz.func156, Tryz.ntmps156
        go_wp2_with (first | (go_at_call 157; refine (up_no _ _ H4.out).mono ?_; rintro e w' ⟨rfl, rfl⟩) | (go_at_call 211; refine (idx_byte c _).mono ?_; rintro e w' ⟨rfl, rfl⟩))
        go_ret
        first | exact ⟨rfl, rfl⟩ | exact ⟨ret_bool (by simp; omega), rfl⟩
      · have g1 : 97 ≤ (c.toNat : Int) := by omega
        have g2 : 48 ≤ (c.toNat : Int) := by omega
        have g3 : ¬ (c.toNat : Int) ≤ 57 := by omega
        have g4 : ¬ (c.toNat : Int) ≤ 122 := by omega
        clear h1 h5
        go_enter Tryz.func156, Tryz.ntmps156
        go_wp2_with (first | (go_at_call 157; refine (up_no _ _ H4.out).mono ?_; rintro e w' ⟨rfl, rfl⟩) | (go_at_call 211; refine (idx_byte c _).mono ?_; rintro e w' ⟨rfl, rfl⟩))
        go_ret
        first | exact ⟨rfl, rfl⟩ | exact ⟨ret_bool (by simp; omega), rfl⟩

theorem in_byte (c : UInt8) (lo hi : Int) (w : World) :
    Calls Tryz.prog 90 #[.int .i64 (c.toNat : Int), .int .i64 lo, .int .i64 hi] w fun e w' => e = .returned (.bool (decide (lo ≤ (c.toNat : Int) ∧ (c.toNat : Int) ≤ hi))) ∧ w = w' := by
  by_cases h : lo ≤ (c.toNat : Int) ∧ (c.toNat : Int) ≤ hi
  · refine (NumDiv.in_yes _ _ _ _ h.1 h.2).mono ?_
    rintro e w' ⟨rfl, rfl⟩
    exact ⟨ret_bool (by simp [h]), rfl⟩
  · refine (NumDiv.in_no _ _ _ _ (by omega)).mono ?_
    rintro e w' ⟨rfl, rfl⟩
    exact ⟨ret_bool (by simp only [h, decide_false]), rfl⟩

set_option maxHeartbeats 1000000 in
theorem letter_byte (c : UInt8) (w : World) : Calls Tryz.prog 214 #[.int .u8 (c.toNat : Int)] w fun e w' => e = .returned (.bool (letc c)) ∧ w = w' := by
  have hub : (c.toNat : Int) ≤ 255 := by have := c.toNat_lt; omega
  have hub0 : 0 ≤ (c.toNat : Int) := by omega
  by_cases h1 : 97 ≤ (c.toNat : Int) ∧ (c.toNat : Int) ≤ 122
  · have e : letc c = true := by unfold letc; simp; omega
    rw [e]; clear e
    obtain ⟨a, b⟩ := h1
    go_enter Tryz.func214, Tryz.ntmps214
    go_wp2_with (go_at_call 90; (with_reducible refine (NumDiv.in_yes _ _ _ _ a b).mono ?_); rintro e w' ⟨rfl, rfl⟩)
    go_ret
    exact ⟨rfl, rfl⟩
  · have H1 := Lib.hid (show (c.toNat : Int) < 97 ∨ 122 < (c.toNat : Int) by omega)
    by_cases h2 : 65 ≤ (c.toNat : Int) ∧ (c.toNat : Int) ≤ 90
    · have e : letc c = true := by unfold letc; simp; omega
      rw [e]; clear e h1
      obtain ⟨a, b⟩ := h2
      go_enter Tryz.func214, Tryz.ntmps214
      go_wp2_with (fail)
      go_at_call 90
      refine (NumDiv.in_no _ _ _ _ H1.out).mono ?_
      rintro e w' ⟨rfl, rfl⟩
      go_wp2_with (fail)
      go_at_call 90
      refine (NumDiv.in_yes _ _ _ _ a b).mono ?_
      rintro e w' ⟨rfl, rfl⟩
      go_wp2
      go_ret
      exact ⟨rfl, rfl⟩
    · have H2 := Lib.hid (show (c.toNat : Int) < 65 ∨ 90 < (c.toNat : Int) by omega)
      have e : letc c = decide (48 ≤ (c.toNat : Int) ∧ (c.toNat : Int) ≤ 57) := by unfold letc; rw [Bool.eq_iff_iff]; simp; omega
      rw [e]; clear e h1 h2
      go_enter Tryz.func214, Tryz.ntmps214
      go_wp2_with (fail)
      go_at_call 90
      refine (NumDiv.in_no _ _ _ _ H1.out).mono ?_
      rintro e w' ⟨rfl, rfl⟩
      go_wp2_with (fail)
      go_at_call 90
      refine (NumDiv.in_no _ _ _ _ H2.out).mono ?_
      rintro e w' ⟨rfl, rfl⟩
      go_wp2_with (fail)
      go_at_call 90
      refine (in_byte c 48 57 _).mono ?_
      rintro e w' ⟨rfl, rfl⟩
      go_wp2
      go_ret
      exact ⟨ret_bool (by rw [Bool.decide_and]), rfl⟩

def mka (k : Nat) : UInt8 := marks.getD k 0
/-- The table of marks, read at a place. -/
theorem tab_fin : ∀ r : Fin 15, (⟨#[33, 35, 36, 37, 38, 39, 42, 43, 45, 46, 94, 95, 124, 126, 96]⟩ : ByteArray)[r.1]'(r.2) = mka r.1 := by decide
theorem tab_at (u : Nat) (h : u < (⟨#[33, 35, 36, 37, 38, 39, 42, 43, 45, 46, 94, 95, 124, 126, 96]⟩ : ByteArray).size) :
    ((⟨#[33, 35, 36, 37, 38, 39, 42, 43, 45, 46, 94, 95, 124, 126, 96]⟩ : ByteArray)[u]'h) = mka u := tab_fin ⟨u, h⟩
theorem mark_in {c : UInt8} {k : Nat} (h : k < 15) (e : mka k = c) : tokc c = true := by
  unfold tokc
  have : marks.contains c = true := by
    rw [← e]
    have hl : k < marks.length := h
    rw [show mka k = marks[k]'hl by unfold mka; simp [List.getD, hl]]
    simp
  rw [this, Bool.true_or]
theorem mark_out {c : UInt8} (h : ∀ j, j < 15 → mka j ≠ c) : tokc c = letc c := by
  unfold tokc
  have : marks.contains c = false := by
    rw [Bool.eq_false_iff]
    intro hc
    have hm : c ∈ marks := by simpa using hc
    obtain ⟨j, hj, e⟩ := List.getElem_of_mem hm
    have hl : marks.length = 15 := rfl
    exact h j (by omega) (by unfold mka; simp [List.getD, hj, e])
  rw [this, Bool.false_or]

set_option maxHeartbeats 1000000 in
theorem tok_spec (c : UInt8) (w : World) : Calls Tryz.prog 164 #[.int .u8 (c.toNat : Int)] w fun e w' => e = .returned (.bool (tokc c)) ∧ w = w' := by
  go_enter Tryz.func164, Tryz.ntmps164
  go_wp2
  go_loop [3] (fun i => ∃ k : Nat, k ≤ 15 ∧ i = .int .i64 k ∧ ∀ j, j < k → mka j ≠ c) (fun i => 15 - (intOf i).toNat)
  case atStart => exact ⟨0, by omega, rfl, fun j hj => absurd hj (by omega)⟩
  case round =>
    obtain ⟨k, hk, rfl, hno⟩ := hrel
    have HN := Lib.hid hno
    clear hno
    by_cases hlt : k < 15
    · have htab := tab_at k
      by_cases hc : mka k = c
      · have HT := Lib.hid (mark_in hlt hc)
        have hq : ((c.toNat : Int) == ((mka k).toNat : Int)) = true := by rw [hc]; simp
        clear hc
        go_wp2
        go_ret
        exact ⟨ret_bool HT.out.symm, rfl⟩
      · have hq : ((c.toNat : Int) == ((mka k).toNat : Int)) = false := by
          rw [beq_eq_false_iff_ne]
          intro e
          exact hc (UInt8.toNat_inj.1 (by omega))
        have HC := Lib.hid hc
        clear hc
        go_wp2
        go_round
        case rel => exact ⟨k + 1, by omega, by go_num, fun j hj => by
          rcases Nat.lt_or_ge j k with h | h
          · exact HN.out j h
          · have : j = k := by omega
            subst this; exact HC.out⟩
        case measure => simp [intOf]; omega
    · obtain rfl : k = 15 := by omega
      have HT := Lib.hid (mark_out HN.out)
      go_wp2_with (go_at_call 214; refine (letter_byte c _).mono ?_; rintro e w' ⟨rfl, rfl⟩)
      go_ret
      exact ⟨ret_bool HT.out.symm, rfl⟩
end Go.Proofs.YtndbhjgfaghelaaGreatDoor.Tx

/-
  CONTRACTS of both sides' IsToken: at every text each returns whether it is a token; the world stays as it was.
-/
namespace Go.Proofs.YtndbhjgfaghelaaGreatDoor.Tx
open Go Go.RowKit
set_option linter.unusedVariables false
set_option maxRecDepth 1000000

theorem all_more {s : ByteArray} {k : Nat} (h : k < s.size) (ha : (s.data.toList.take k).all tokc = true) (hc : tokc s[k] = true) : (s.data.toList.take (k + 1)).all tokc = true := by
  rw [take_snoc s k h, List.all_append, ha, List.all_cons, hc]; rfl
theorem token_bad {s : ByteArray} {k : Nat} (h : k < s.size) (hc : tokc s[k] = false) : token s.data.toList = false := by
  unfold token
  have : s.data.toList.all tokc = false := by
    rw [Bool.eq_false_iff]
    intro ha
    have hm : s[k] ∈ s.data.toList := by
      rw [← List.take_append_drop k s.data.toList, drop_cons s k h]; simp
    have := List.all_eq_true.1 ha _ hm
    rw [hc] at this; cases this
  rw [this, Bool.false_and]
theorem token_all {s : ByteArray} {k : Nat} (h : k = s.size) (ha : (s.data.toList.take k).all tokc = true) : token s.data.toList = decide (1 ≤ (s.size : Int) ∧ (s.size : Int) ≤ 40) := by
  have e : s.data.toList.take k = s.data.toList := List.take_of_length_le (by rw [list_len]; omega)
  rw [e] at ha
  unfold token
  rw [ha, Bool.true_and, list_len, Bool.eq_iff_iff]; simp; omega
theorem token_len {s : ByteArray} (h : s.size < 1 ∨ 40 < s.size) : token s.data.toList = false := by
  unfold token
  rw [list_len]
  have : decide (1 ≤ s.size ∧ s.size ≤ 40) = false := by simp; omega
  rw [this, Bool.and_false]

set_option maxHeartbeats 1000000 in
theorem spec_token (s : ByteArray) (w : World) (hs : s.size ≤ 9223372036854775806) :
    Calls Tryz.prog 116 #[.string s] w fun e w' => e = .returned (.bool (token s.data.toList)) ∧ w = w' := by
  go_enter Tryz.func116, Tryz.ntmps116
  go_wp2
  go_loop [3] (fun i => ∃ k : Nat, k ≤ s.size ∧ i = .int .i64 k ∧ (s.data.toList.take k).all tokc = true) (fun i => s.size - (intOf i).toNat)
  case atStart => exact ⟨0, Nat.zero_le _, rfl, rfl⟩
  case round =>
    obtain ⟨k, hk, rfl, ha⟩ := hrel
    have HA := Lib.hid ha
    clear ha
    by_cases hlt : k < s.size
    · have hc1 := tok_spec s[k]
      rcases hc : tokc s[k] with _ | _
      · have HT := Lib.hid (token_bad hlt hc)
        rw [hc] at hc1
        clear hc
        go_wp2_with (go_at_call 164; refine (hc1 _).mono ?_; rintro e w' ⟨rfl, rfl⟩)
        go_ret
        exact ⟨ret_bool HT.out.symm, rfl⟩
      · have HT := Lib.hid (all_more hlt HA.out hc)
        rw [hc] at hc1
        clear hc
        go_wp2_with (go_at_call 164; refine (hc1 _).mono ?_; rintro e w' ⟨rfl, rfl⟩)
        go_round
        case rel => exact ⟨k + 1, by omega, by go_num, HT.out⟩
        case measure => simp [intOf]; omega
    · have HT := Lib.hid (token_all (show k = s.size by omega) HA.out)
      by_cases hz : 1 ≤ (s.size : Int) ∧ (s.size : Int) ≤ 40
      · obtain ⟨z1, z2⟩ := hz
        go_wp2_with (go_at_call 90; refine (NumDiv.in_yes _ _ _ _ z1 z2).mono ?_; rintro e w' ⟨rfl, rfl⟩)
        go_ret
        exact ⟨ret_bool (by rw [HT.out]; simp; omega), rfl⟩
      · have HZ := Lib.hid hz
        clear hz
        go_wp2_with (go_at_call 90; refine (NumDiv.in_no _ _ _ _ (by have := HZ.out; omega)).mono ?_; rintro e w' ⟨rfl, rfl⟩)
        go_ret
        exact ⟨ret_bool (by rw [HT.out]; symm; simp; have := HZ.out; omega), rfl⟩

set_option maxHeartbeats 1000000 in
theorem impl_token (s : ByteArray) (w : World) (hs : s.size ≤ 9223372036854775806) :
    Calls Tryz.prog 108 #[.string s] w fun e w' => e = .returned (.bool (token s.data.toList)) ∧ w = w' := by
  by_cases h1 : (s.size : Int) < 1
  · have HT := Lib.hid (token_len (s := s) (Or.inl (by omega)))
    go_enter Tryz.func108, Tryz.ntmps108
    go_wp2
    go_ret
    exact ⟨ret_bool HT.out.symm, rfl⟩
  · by_cases h2 : 40 < (s.size : Int)
    · have HT := Lib.hid (token_len (s := s) (Or.inr (by omega)))
      go_enter Tryz.func108, Tryz.ntmps108
      go_wp2
      go_ret
      exact ⟨ret_bool HT.out.symm, rfl⟩
    · go_enter Tryz.func108, Tryz.ntmps108
      go_wp2
      go_loop [3, 14] (fun j i => ∃ k : Nat, k ≤ s.size ∧ i = .int .i64 k ∧ (s.data.toList.take k).all tokc = true) (fun _ i => s.size - (intOf i).toNat)
      case atStart => exact ⟨0, Nat.zero_le _, rfl, rfl⟩
      case round =>
        obtain ⟨k, hk, rfl, ha⟩ := hrel
        have HA := Lib.hid ha
        clear ha
        by_cases hlt : k < s.size
        · have hc1 := tok_byte s[k]
          rcases hc : tokc s[k] with _ | _
          · have HT := Lib.hid (token_bad hlt hc)
            rw [hc] at hc1
            clear hc
            go_wp2_with (go_at_call 156; refine (hc1 _).mono ?_; rintro e w' ⟨rfl, rfl⟩)
            go_ret
            exact ⟨ret_bool HT.out.symm, rfl⟩
          · have HT := Lib.hid (all_more hlt HA.out hc)
            rw [hc] at hc1
            clear hc
            go_wp2_with (go_at_call 156; refine (hc1 _).mono ?_; rintro e w' ⟨rfl, rfl⟩)
            go_round
            case rel => exact ⟨k + 1, by omega, by go_num, HT.out⟩
            case measure => simp [intOf]; omega
        · have HT := Lib.hid (token_all (show k = s.size by omega) HA.out)
          have HB := Lib.hid (And.intro h1 h2)
          go_wp2
          go_ret
          exact ⟨ret_bool (by rw [HT.out]; symm; simp; have := HB.out; omega), rfl⟩
end Go.Proofs.YtndbhjgfaghelaaGreatDoor.Tx

/-
  CONTRACT of the model's l15Keys: at any text it answers whether its parts between blanks are at most four words, or whether it is empty; nothing that was there before is changed.
-/
namespace Go.Proofs.YtndbhjgfaghelaaGreatDoor.Orc
open Go Go.RowKit
set_option linter.unusedVariables false
set_option maxRecDepth 1000000

/-- Whether a text is a list of keys. -/
def keysOk (s : List UInt8) : Bool := s.isEmpty || ((Spc.spl 32 s).all Tx.token && decide ((Spc.spl 32 s).length ≤ 4))
theorem shape_k {w : World} {B : Nat} {v : Value} {xs : List (List UInt8)} (h : Strs.Holds w B v xs) : ∃ a cap, v = .slice a xs.length cap ∧ (0 < xs.length → ∃ b off, a = some ⟨b, off, none⟩ ∧ b < B ∧ Strs.At w b off xs) := by
  rcases h with ⟨rfl, a, cap, rfl⟩ | ⟨h0, b, off, cap, rfl, hb, _, hc⟩
  · exact ⟨a, cap, rfl, fun h => by simp at h⟩
  · exact ⟨_, cap, rfl, fun _ => ⟨b, off, rfl, hb, hc⟩⟩
theorem take_tok {xs : List (List UInt8)} {k : Nat} (h : k < xs.length) (ha : (xs.take k).all Tx.token = true) (hc : Tx.token (xs.getD k []) = true) : (xs.take (k + 1)).all Tx.token = true := by
  rw [List.take_succ_eq_append_getElem h, List.all_append, ha, show xs[k] = xs.getD k [] by simp [List.getD, h]]
  show (true && (Tx.token (xs.getD k []) && true)) = true
  rw [hc]; rfl
theorem bad_tok {xs : List (List UInt8)} {k : Nat} (h : k < xs.length) (hc : Tx.token (xs.getD k []) = false) : xs.all Tx.token = false := by
  rw [List.all_eq_false]
  exact ⟨xs.getD k [], by rw [show xs.getD k [] = xs[k] by simp [List.getD, h]]; exact List.getElem_mem _, by rw [hc]; decide⟩

set_option maxHeartbeats 2000000 in
theorem spec_keys (s : List UInt8) (w : World) (hs : s.length ≤ 1048576) :
    Calls Tryz.prog 115 #[.string ⟨s.toArray⟩] w fun e w' => e = .returned (.bool (keysOk s)) ∧ Below w.heap.size w w' := by
  by_cases h0 : s = []
  · subst h0
    go_enter Tryz.func115, Tryz.ntmps115
    go_wp2
    go_ret
    exact ⟨rfl, Below.refl _ _⟩
  · have hk : keysOk s = ((Spc.spl 32 s).all Tx.token && decide ((Spc.spl 32 s).length ≤ 4)) := by
      unfold keysOk; simp [h0]
    rw [hk]
    have k1 := Spc.spec_spl 32 ⟨s.toArray⟩ w (by simp [ByteArray.size]; omega)
    unfold Spc.SplEnd at k1
    have hm := Spc.spl_mem 32 s
    have hln := Spc.spl_len 32 s
    rw [show (⟨s.toArray⟩ : ByteArray).data.toList = s from rfl] at k1
    generalize Spc.spl 32 s = L at k1 hm hln ⊢
    have HM := Lib.hid hm
    have h1 : (s == []) = false := by simpa using h0
    have h2 : (!s == []) = true := by simp [h0]
    have hll : L.length ≤ 1048577 := by omega
    clear hm hk hln
    go_enter Tryz.func115, Tryz.ntmps115
    go_wp2_with (fail)
    go_at_call 163
    refine k1.mono ?_
    rintro e w1 ⟨v, rfl, ho, b1⟩
    obtain ⟨a, cap, rfl, ha⟩ := shape_k (Strs.holds_more (Strs.own_holds ho) (Nat.le_refl _))
    have HA := Lib.hid ha
    have HB1 := Lib.hid b1
    clear ho ha b1 k1
    go_wp2
    go_loopw [4] (fun i wr => ∃ k : Nat, k ≤ L.length ∧ i = .int .i64 (k : Int) ∧ Hid ((L.take k).all Tx.token = true) ∧ Hid (Below w1.heap.size w1 wr)) (fun i _ => L.length - (intOf i).toNat)
    case atStart => exact ⟨0, Nat.zero_le _, rfl, Lib.hid rfl, Lib.hid (Below.refl _ _)⟩
    case round =>
      obtain ⟨k, hk, rfl, HT, HG⟩ := hrel
      by_cases hlt : k < L.length
      · obtain ⟨b, off, rfl, hbl, hat⟩ := HA.out (by omega)
        have c0 := (Strs.at_below hat HG.out hbl) k hlt
        have hki : (k : Int) < (L.length : Int) := by omega
        have hxl := HM.out _ (show L.getD k [] ∈ L by rw [show L.getD k [] = L[k] by simp [List.getD, hlt]]; exact List.getElem_mem _)
        have HY := Lib.hid (fun h => take_tok hlt HT.out h)
        have HN := Lib.hid (fun h => bad_tok (xs := L) hlt h)
        generalize L.getD k [] = x at c0 hxl HY HN
        have HI := Lib.hid (fun W => Tx.spec_token ⟨x.toArray⟩ W (by simp [ByteArray.size]; omega))
        rw [show (⟨x.toArray⟩ : ByteArray).data.toList = x from rfl] at HI
        unfold Strs.sv at c0
        clear hat hxl
        cases hq : Tx.token x with
        | true =>
          have HY2 := Lib.hid (HY.out hq)
          rw [hq] at HI
          clear hq HY HN
          go_wp2_with (fail)
          go_at_call 116
          refine (HI.out _).mono ?_
          rintro e w2 ⟨rfl, rfl⟩
          clear c0 HI
          go_wp2
          go_roundw
          case rel => exact ⟨k + 1, by omega, by go_num, HY2, HG⟩
          case measure => simp [intOf]; omega
        | false =>
          have HN2 := Lib.hid (HN.out hq)
          rw [hq] at HI
          have HBB := Lib.hid (Base.then_below HB1.out HG.out)
          clear hq HY HN
          go_wp2_with (fail)
          go_at_call 116
          refine (HI.out _).mono ?_
          rintro e w2 ⟨rfl, rfl⟩
          clear c0 HI
          go_wp2
          go_ret
          exact ⟨by rw [HN2.out]; rfl, HBB.out⟩
      · have hki : ¬ (k : Int) < (L.length : Int) := by omega
        have hT := HT.out
        rw [List.take_of_length_le (by omega)] at hT
        have HT2 := Lib.hid hT
        have HBB := Lib.hid (Base.then_below HB1.out HG.out)
        clear hT
        go_wp2
        go_ret
        refine ⟨?_, HBB.out⟩
        rw [HT2.out, Bool.true_and]
        show Ending.returned (.bool (decide ((L.length : Int) ≤ 4))) = _
        congr 2
        simp only [decide_eq_decide]; omega
end Go.Proofs.YtndbhjgfaghelaaGreatDoor.Orc

/-
  PLAIN FACTS on slices of bytes that a call makes out of a text, or builds byte by byte, and on reading them back as a text.
-/
namespace Go.Proofs.YtndbhjgfaghelaaGreatDoor.Bys
open Go Go.RowKit
set_option linter.unusedVariables false
set_option maxRecDepth 1000000

theorem info_byte : (Tryz.prog.info? 5).map (fun i => (i.zero, i.size, i.bytes)) = some (some (.int .u8 0), 1, 1) := by kernel_rfl
def bvl (c : UInt8) : Value := .int .u8 (c.toNat : Int)
def bvs (l : List UInt8) : List Value := l.map bvl
theorem bvs_len (l : List UInt8) : (bvs l).length = l.length := by unfold bvs; simp
theorem bvs_more (l : List UInt8) (c : UInt8) : bvs (l ++ [c]) = bvs l ++ [bvl c] := by unfold bvs; simp
theorem bvl_one (c : UInt8) : ∀ u ∈ [bvl c], u.oneCell' = true := by intro u hu; simp at hu; subst hu; rfl
theorem ret_str {a b : List UInt8} (h : a = b) : Ending.returned (.string ⟨a.toArray⟩) = .returned (.string ⟨b.toArray⟩) := by rw [h]

/-- Block g holds these bytes, from its head on; they can be written. -/
def BAt (w : World) (g : Nat) (l : List UInt8) : Prop := g < w.heap.size ∧ ∀ j, j < l.length → w.cell? ⟨g, j, none⟩ = some (bvl (l.getD j 0)) ∧ w.frozen? ⟨g, j, none⟩ = false
theorem of_string (s : ByteArray) (w : World) : ∃ cap w1, (convert 9 22 (.string s)).run Tryz.prog w = .ok (.slice (some ⟨w.heap.size, 0, none⟩) s.size cap) w1 ∧ BAt w1 w.heap.size s.data.toList ∧ Below w.heap.size w w1 := by
  refine ⟨_, _, run_bytes_of_string w 9 22 5 s Tryz.underlying9 Tryz.underlying22 Tryz.underlying5, ⟨by simp, fun j hj => ?_⟩, (Below.refl _ _).drew.alloc (Nat.le_refl _) _⟩
  have hj' : j < s.data.size := by simpa using hj
  have hc := World.cell?_alloc_mark w.drew (bytesRow s (grownCap w s.size 0 5)) 5 ((bytesRow s (grownCap w s.size 0 5)).size, (bytesRow s (grownCap w s.size 0 5)).size + 1) j
  have hf := World.frozen?_alloc_mark w.drew (bytesRow s (grownCap w s.size 0 5)) 5 (bytesRow s (grownCap w s.size 0 5)).size ((bytesRow s (grownCap w s.size 0 5)).size + 1) j
  have hsz : j < (bytesRow s (grownCap w s.size 0 5)).size := by unfold bytesRow; rw [Array.size_append, Array.size_map]; omega
  refine ⟨?_, ?_⟩
  · refine (hc : _).trans ?_
    rw [bytesRow_at s _ j hj']
    have : s.data.toList.getD j 0 = s.data[j] := by simp [List.getD, Array.getElem?_eq_getElem hj']
    rw [this]; rfl
  · refine (hf : _).trans ?_
    simp; omega
theorem back (w : World) (g cap : Nat) (l : List UInt8) (h : BAt w g l) : (convert 22 9 (.slice (some ⟨g, 0, none⟩) l.length cap)).run Tryz.prog w = .ok (.string ⟨l.toArray⟩) w := by
  refine run_convert_bytes_back (P := Tryz.prog) w 22 9 5 ⟨g, 0, none⟩ cap l Tryz.underlying22 Tryz.underlying5 Tryz.underlying9 (fun j hj => ?_)
  rw [WideShapes.add_plain, Nat.zero_add, (h.2 j hj).1]
  simp [List.getD, hj, bvl]
theorem bat_set {w : World} {g k : Nat} {l : List UInt8} (c : UInt8) (h : BAt w g l) (hk : k < l.length) : BAt (w.setCell ⟨g, k, none⟩ (bvl c)) g (l.set k c) := by
  refine ⟨by simpa [World.setCell] using h.1, fun j hj => ?_⟩
  rw [List.length_set] at hj
  rw [World.frozen?_setCell]
  refine ⟨?_, (h.2 j hj).2⟩
  by_cases e : j = k
  · subst e
    rw [World.cell?_setCell_same' _ _ _ (by rw [(h.2 j hj).1]; rfl)]
    simp [List.getD, hj]
  · rw [World.cell?_setCell_other _ _ _ _ (by intro h'; apply e; injection h' with _ h2; exact h2.symm)]
    rw [(h.2 j hj).1]
    simp [List.getD, hj, List.getElem?_set, show ¬ k = j from fun h' => e h'.symm]
theorem bat_below {w w' : World} {B g : Nat} {l : List UInt8} (h : BAt w g l) (hb : Below B w w') (hg : g < B) : BAt w' g l :=
  ⟨Nat.lt_of_lt_of_le h.1 hb.size, fun j hj => ⟨(hb.cell (p := ⟨g, j, none⟩) hg).trans (h.2 j hj).1, (hb.frozen (p := ⟨g, j, none⟩) hg).trans (h.2 j hj).2⟩⟩
theorem bat_drew {w : World} {g : Nat} {l : List UInt8} (h : BAt w g l) : BAt w.drew g l := h
theorem below_set {B : Nat} {a w : World} {g k : Nat} (u : Value) (h : Below B a w) (hg : B ≤ g) : Below B a (w.setCell ⟨g, k, none⟩ u) := h.setCell hg _

/-! bytes put one behind another -/
abbrev Own (w : World) (B : Nat) (v : Value) (l : List UInt8) : Prop := w.ownsRow B 5 1 v l.length (bvs l)
theorem news_one (w : World) (x : Value) (T : TypeId) : ∀ j u, [x][j]? = some u → (w.alloc (.cells #[x] T)).cell? ((⟨w.heap.size, 0, none⟩ : Addr).add j) = some u := by
  intro j u hj
  match j, hj with
  | 0, hj =>
    simp at hj; subst hj
    show World.cell? _ ⟨w.heap.size, 0 + 0, none⟩ = _
    rw [World.cell?_alloc_new]; simp
theorem push_own {B : Nat} {a w w1 : World} {v v' : Value} {l : List UInt8} {c : UInt8} {o : Obj} (hown : Own w B v l) (hb : Below a.heap.size a w) (hB : a.heap.size ≤ B)
    (h' : w1.ownsRow B 5 1 v' (l.length + 1) (bvs l ++ [bvl c])) (hg : (w.alloc o).grownBy w1 v.ownBlock) :
    Own w1 B v' (l ++ [c]) ∧ Below a.heap.size a w1 := by
  refine ⟨by show w1.ownsRow B 5 1 v' (l ++ [c]).length (bvs (l ++ [c])); rw [List.length_append, bvs_more]; exact h', (hb.alloc hb.size o).grown hg (by have := hb.size; simp; omega) (fun k e => Nat.le_trans hB (hown.lt k e).1)⟩
theorem own_lit_nil (w : World) : Own (w.alloc (.cells #[] 5)) w.heap.size (.slice (some ⟨w.heap.size, 0, none⟩) 0 0) [] := World.ownsRow_lit w #[] 0 (Nat.le_refl _) (by decide) rfl
theorem own_lit_one (w : World) (c : UInt8) : Own (w.alloc (.cells #[bvl c] 5)) w.heap.size (.slice (some ⟨w.heap.size, 0, none⟩) 1 1) [c] := World.ownsRow_lit w #[bvl c] 1 (Nat.le_refl _) (by decide) rfl
/-- A slice of bytes that the call has built, read as a text. -/
theorem own_str {w : World} {B : Nat} {v : Value} {l : List UInt8} (h : Own w B v l) : (convert 22 9 v).run Tryz.prog w = .ok (.string ⟨l.toArray⟩) w := by
  have h' := h
  rcases h.2 with ⟨rfl, h0⟩ | ⟨g, cap, cur, rfl, _⟩
  · have : l = [] := List.eq_nil_of_length_eq_zero (by omega)
    subst this
    exact run_convert_bytes_nil w 22 5 Tryz.underlying22 Tryz.underlying5 0 0 9 Tryz.underlying9
  · refine run_convert_bytes_back (P := Tryz.prog) w 22 9 5 ⟨g, 0, none⟩ cap l Tryz.underlying22 Tryz.underlying5 Tryz.underlying9 (fun j hj => ?_)
    rw [WideShapes.add_plain, Nat.zero_add, h'.cellAt j (by omega)]
    simp [bvs, hj, bvl]
end Go.Proofs.YtndbhjgfaghelaaGreatDoor.Bys

/-
  PLAIN FACTS on a text whose first bytes are in lower case.
-/
namespace Go.Proofs.YtndbhjgfaghelaaGreatDoor.Tx
open Go Go.RowKit Bys
set_option linter.unusedVariables false
set_option maxRecDepth 1000000

/-- The first k bytes are in lower case. -/
def lowk (l : List UInt8) (k : Nat) : List UInt8 := (l.take k).map lowc ++ l.drop k
theorem lowk_zero (l : List UInt8) : lowk l 0 = l := by unfold lowk; simp
theorem lowk_len (l : List UInt8) (k : Nat) : (lowk l k).length = l.length := by unfold lowk; simp; omega
theorem getD_at {l : List UInt8} {k : Nat} (h : k < l.length) : l.getD k 0 = l[k] := by simp [List.getD, h]
theorem lowk_at {l : List UInt8} {k : Nat} (h : k < l.length) : (lowk l k).getD k 0 = l.getD k 0 := by
  unfold lowk
  rw [List.getD, List.getElem?_append_right (by simp; omega)]
  simp [Nat.min_eq_left (Nat.le_of_lt h), h]
theorem lowk_more {l : List UInt8} {k : Nat} (h : k < l.length) : (lowk l k).set k (lowc (l.getD k 0)) = lowk l (k + 1) := by
  rw [getD_at h]
  unfold lowk
  rw [List.set_append_right _ _ (by simp; omega), List.take_succ_eq_append_getElem h, List.map_append, List.append_assoc, List.length_map, List.length_take, Nat.min_eq_left (Nat.le_of_lt h), Nat.sub_self, List.drop_eq_getElem_cons h, List.set_cons_zero]
  rfl
theorem lowk_same {l : List UInt8} {k : Nat} (h : k < l.length) (hc : upc (l.getD k 0) = false) : lowk l (k + 1) = lowk l k := by
  rw [getD_at h] at hc
  unfold lowk
  rw [List.take_succ_eq_append_getElem h, List.map_append, List.append_assoc, List.drop_eq_getElem_cons h]
  simp [lowc_no hc]
theorem lowk_all {l : List UInt8} {k : Nat} (h : k = l.length) : lowk l k = lower l := by unfold lowk lower; subst h; simp

end Go.Proofs.YtndbhjgfaghelaaGreatDoor.Tx

/-
  CONTRACT of the program's LowerText: at every text it returns it with the letters A to Z as a to z; nothing that was there before is changed.
-/
namespace Go.Proofs.YtndbhjgfaghelaaGreatDoor.Tx
open Go Go.RowKit Bys
set_option linter.unusedVariables false
set_option maxRecDepth 1000000

set_option maxHeartbeats 1000000 in
theorem impl_lower (s : ByteArray) (w : World) (hs : s.size ≤ 9223372036854775806) :
    Calls Tryz.prog 109 #[.string s] w fun e w' => e = .returned (.string ⟨(lower s.data.toList).toArray⟩) ∧ Below w.heap.size w w' := by
  obtain ⟨cap, w1, hcv, hat, hb⟩ := of_string s w
  have HT := Lib.hid (And.intro hat hb)
  clear hat hb
  go_enter Tryz.func109, Tryz.ntmps109
  go_wp2
  clear hcv
  go_loopw [4, 5, 10] (fun x y i wr => ∃ k : Nat, k ≤ s.size ∧ i = .int .i64 k ∧ BAt wr w.heap.size (lowk s.data.toList k) ∧ Below w.heap.size w wr) (fun _ _ i _ => s.size - (intOf i).toNat)
  case atStart => exact ⟨0, Nat.zero_le _, rfl, by rw [lowk_zero]; exact HT.out.1, HT.out.2⟩
  case round =>
    clear HT
    obtain ⟨k, hk, rfl, hat, hb⟩ := hrel
    have hL := list_len s
    by_cases hlt : k < s.size
    · have hlt' : k < s.data.toList.length := by omega
      have hcell := (hat.2 k (by rw [lowk_len]; exact hlt')).1
      have hfz := (hat.2 k (by rw [lowk_len]; exact hlt')).2
      rw [lowk_at hlt'] at hcell
      have HM := Lib.hid (lowk_more hlt')
      have HN := Lib.hid (lowk_same hlt')
      have HS := Lib.hid (bat_set (lowc (s.data.toList.getD k 0)) hat (by rw [lowk_len]; exact hlt'))
      have hub : ((s.data.toList.getD k 0).toNat : Int) ≤ 255 := by have := (s.data.toList.getD k 0).toNat_lt; omega
      have hub0 : 0 ≤ ((s.data.toList.getD k 0).toNat : Int) := by omega
      have HB := Lib.hid hb
      have HA := Lib.hid hat
      have HK := Lib.hid (show (k + 1 : Nat) ≤ s.size by omega)
      clear hlt' hL hb hat
      generalize s.data.toList.getD k 0 = c at *
      unfold bvl at hcell
      rcases hu : upc c with _ | _
      · have h1 : (c.toNat : Int) < 65 ∨ 90 < (c.toNat : Int) := by unfold upc at hu; simp at hu; omega
        have H1 := Lib.hid h1
        have HU := Lib.hid hu
        clear h1 hu
        go_wp2_with (go_at_call 157; (with_reducible refine (up_no _ _ H1.out).mono ?_); rintro e w' ⟨rfl, rfl⟩)
        go_roundw
        case rel => exact ⟨k + 1, HK.out, by go_num, by rw [HN.out HU.out]; exact HA.out, HB.out⟩
        case measure => simp [intOf]; omega
      · have h1 : 65 ≤ (c.toNat : Int) := by unfold upc at hu; simp at hu; omega
        have h2 : (c.toNat : Int) ≤ 90 := by unfold upc at hu; simp at hu; omega
        have hs : (c.toNat : Int) - 65 + 97 = ((lowc c).toNat : Int) := by rw [lowc_up hu]; omega
        clear hu
        go_wp2_with (go_at_call 157; (with_reducible refine (up_yes _ _ h1 h2).mono ?_); rintro e w' ⟨rfl, rfl⟩)
        go_roundw
        case rel => exact ⟨k + 1, HK.out, by go_num, by rw [← HM.out]; exact HS.out, below_set _ HB.out (Nat.le_refl _)⟩
        case measure => simp [intOf]; omega
    · have HE := Lib.hid (lowk_all (l := s.data.toList) (k := k) (by omega))
      have hbk := back wr w.heap.size cap (lowk s.data.toList k) hat
      rw [lowk_len, hL] at hbk
      have HB := Lib.hid hb
      clear hat hL hb
      go_wp2
      go_ret
      exact ⟨ret_str HE.out, HB.out⟩
end Go.Proofs.YtndbhjgfaghelaaGreatDoor.Tx

/-
  CONTRACT of the model's LowerText: at every text it returns it with the letters A to Z as a to z; nothing that was there before is changed.
-/
namespace Go.Proofs.YtndbhjgfaghelaaGreatDoor.Tx
open Go Go.RowKit Bys
set_option linter.unusedVariables false
set_option maxRecDepth 1000000

set_option maxHeartbeats 1000000 in
theorem spec_lower (s : ByteArray) (w : World) (hs : s.size ≤ 9223372036854775806) :
    Calls Tryz.prog 161 #[.string s] w fun e w' => e = .returned (.string ⟨(lower s.data.toList).toArray⟩) ∧ Below w.heap.size w w' := by
  obtain ⟨cap, w1, hcv, hat, hb⟩ := of_string s w
  have HT := Lib.hid (And.intro hat hb)
  clear hat hb
  go_enter Tryz.func161, Tryz.ntmps161
  go_wp2
  clear hcv
  go_loopw [4] (fun i wr => ∃ k : Nat, k ≤ s.size ∧ i = .int .i64 k ∧ BAt wr w.heap.size (lowk s.data.toList k) ∧ Below w.heap.size w wr) (fun i _ => s.size - (intOf i).toNat)
  case atStart => exact ⟨0, Nat.zero_le _, rfl, by rw [lowk_zero]; exact HT.out.1, HT.out.2⟩
  case round =>
    clear HT
    obtain ⟨k, hk, rfl, hat, hb⟩ := hrel
    have hL := list_len s
    by_cases hlt : k < s.size
    · have hlt' : k < s.data.toList.length := by omega
      have hcell := (hat.2 k (by rw [lowk_len]; exact hlt')).1
      have hfz := (hat.2 k (by rw [lowk_len]; exact hlt')).2
      rw [lowk_at hlt'] at hcell
      have HM := Lib.hid (lowk_more hlt')
      have HN := Lib.hid (lowk_same hlt')
      have HS := Lib.hid (bat_set (lowc (s.data.toList.getD k 0)) hat (by rw [lowk_len]; exact hlt'))
      have hub : ((s.data.toList.getD k 0).toNat : Int) ≤ 255 := by have := (s.data.toList.getD k 0).toNat_lt; omega
      have hub0 : 0 ≤ ((s.data.toList.getD k 0).toNat : Int) := by omega
      have HB := Lib.hid hb
      have HA := Lib.hid hat
      have HK := Lib.hid (show (k + 1 : Nat) ≤ s.size by omega)
      clear hlt' hL hb hat
      generalize s.data.toList.getD k 0 = c at *
      unfold bvl at hcell
      rcases hu : upc c with _ | _
      · have h1 : (c.toNat : Int) < 65 ∨ 90 < (c.toNat : Int) := by unfold upc at hu; simp at hu; omega
        have H1 := Lib.hid h1
        have HU := Lib.hid hu
        clear h1 hu
        go_wp2_with (go_at_call 90; (with_reducible refine (NumDiv.in_no _ _ _ _ H1.out).mono ?_); rintro e w' ⟨rfl, rfl⟩)
        go_roundw
        case rel => exact ⟨k + 1, HK.out, by go_num, by rw [HN.out HU.out]; exact HA.out, HB.out⟩
        case measure => simp [intOf]; omega
      · have h1 : 65 ≤ (c.toNat : Int) := by unfold upc at hu; simp at hu; omega
        have h2 : (c.toNat : Int) ≤ 90 := by unfold upc at hu; simp at hu; omega
        have hs : (c.toNat : Int) + 32 = ((lowc c).toNat : Int) := (lowc_up hu).symm
        clear hu
        go_wp2_with (go_at_call 90; (with_reducible refine (NumDiv.in_yes _ _ _ _ h1 h2).mono ?_); rintro e w' ⟨rfl, rfl⟩)
        go_roundw
        case rel => exact ⟨k + 1, HK.out, by go_num, by rw [← HM.out]; exact HS.out, below_set _ HB.out (Nat.le_refl _)⟩
        case measure => simp [intOf]; omega
    · have HE := Lib.hid (lowk_all (l := s.data.toList) (k := k) (by omega))
      have hbk := back wr w.heap.size cap (lowk s.data.toList k) hat
      rw [lowk_len, hL] at hbk
      have HB := Lib.hid hb
      clear hat hL hb
      go_wp2
      go_ret
      exact ⟨ret_str HE.out, HB.out⟩

end Go.Proofs.YtndbhjgfaghelaaGreatDoor.Tx
