/-
  CONTRACTS AND PLAIN FACTS, several texts in one; each says in its own words what it proves.
-/
import Derived.Test.YtegaakgmfphcaaaGreatDoorSelB
import Derived.Test.YtegaakgmfphcaaaGreatDoorSelI
import Derived.Test.YtegaakgmfphcaaaGreatDoorSelF
import Derived.LoopTactic
import Derived.Test.YtegaakgmfphcaaaGreatDoorSelG
import Derived.Deep.QuietTactic
import Derived.BigQuiet
import Derived.Test.YtegaakgmfphcaaaGreatDoorSelJ
import Derived.Test.YtegaakgmfphcaaaGreatDoorSelK
import Derived.Outline
import Derived.RegionTactic
import Derived.Test.YtegaakgmfphcaaaGreatDoorSelA
import Derived.Laws.DeepStrings4
set_option linter.unusedSimpArgs false
set_option linter.unusedVariables false

/-
  CONTRACTS of both sides' tests of the bytes of tokens, and of IsToken: each returns what the rule says; the world stays as it was.
-/
namespace Go.Proofs.YtegaakgmfphcaaaGreatDoor.Tx
open Go Go.RowKit
set_option linter.unusedVariables false
set_option maxRecDepth 1000000

/-! the marks -/
def mk (c : UInt8) : Int := Lib.indexByte marks c
theorem index_contains (l : List UInt8) (c : UInt8) : 0 ≤ Lib.indexByte l c ↔ l.contains c = true := by
  induction l with
  | nil => simp [Lib.indexByte]
  | cons a r ih =>
    unfold Lib.indexByte
    by_cases h : a == c
    · rw [if_pos h]
      have : a = c := by simpa using h
      subst this; simp
    · rw [if_neg h]
      have h' : a ≠ c := by simpa using h
      have hm : (a :: r).contains c = r.contains c := by
        simp only [List.contains_cons]
        have : (c == a) = false := by rw [beq_eq_false_iff_ne]; exact fun e => h' e.symm
        rw [this, Bool.false_or]
      rw [hm, ← ih]
      by_cases h1 : Lib.indexByte r c == -1
      · rw [if_pos h1]
        have : Lib.indexByte r c = -1 := by simpa using h1
        omega
      · rw [if_neg h1]
        have h2 : Lib.indexByte r c ≠ -1 := by simpa using h1
        have h3 : -1 ≤ Lib.indexByte r c := by
          clear ih h1 h2 hm
          induction r with
          | nil => simp [Lib.indexByte]
          | cons b t ih2 =>
            unfold Lib.indexByte
            split
            · omega
            · split
              · omega
              · omega
        omega
theorem mk_ge {c : UInt8} : 0 ≤ mk c ↔ marks.contains c = true := index_contains marks c
theorem idx_byte (c : UInt8) (w : World) :
    Calls Tryz.prog 57 #[.string ⟨#[33, 35, 36, 37, 38, 39, 42, 43, 45, 46, 94, 95, 124, 126, 96]⟩, .int .u8 (c.toNat : Int)] w fun e w' => e = .returned (.int .i64 (mk c)) ∧ w = w' := by
  refine (Tryz.strings_IndexByte _ _ _).mono ?_
  rintro e w' ⟨rfl, rfl⟩
  refine ⟨?_, rfl⟩
  have : ((c.toNat : Int).toNat.toUInt8) = c := by simp
  rw [this]; rfl

theorem tokc_let {c : UInt8} (h : letc c = true) : tokc c = true := by unfold tokc; rw [h, Bool.or_true]
theorem tokc_no {c : UInt8} (h : letc c = false) : tokc c = marks.contains c := by unfold tokc; rw [h, Bool.or_false]

set_option maxHeartbeats 1000000 in
theorem tok_byte (c : UInt8) (w : World) : Calls Tryz.prog 94 #[.int .u8 (c.toNat : Int)] w fun e w' => e = .returned (.bool (tokc c)) ∧ w = w' := by
  by_cases hl : letc c = true
  · rw [tokc_let hl]
    have h3 : (97 ≤ (c.toNat : Int) ∧ (c.toNat : Int) ≤ 122) ∨ (65 ≤ (c.toNat : Int) ∧ (c.toNat : Int) ≤ 90) ∨ (48 ≤ (c.toNat : Int) ∧ (c.toNat : Int) ≤ 57) := by
      unfold letc at hl; simp at hl; omega
    clear hl
    rcases h3 with ⟨h1, h2⟩ | ⟨h1, h2⟩ | ⟨h1, h2⟩
    · go_enter Tryz.func94, Tryz.ntmps94
      go_wp2
      go_ret
      exact ⟨rfl, rfl⟩
    · have h3 : ¬ 97 ≤ (c.toNat : Int) := by omega
      go_enter Tryz.func94, Tryz.ntmps94
      go_wp2_with (go_at_call 53; refine (up_yes _ _ h1 h2).mono ?_; rintro e w' ⟨rfl, rfl⟩)
      go_ret
      exact ⟨rfl, rfl⟩
    · have h3 : ¬ 97 ≤ (c.toNat : Int) := by omega
      have h4 : (c.toNat : Int) < 65 ∨ 90 < (c.toNat : Int) := by omega
      have H4 := Lib.hid h4
      clear h4
      go_enter Tryz.func94, Tryz.ntmps94
      go_wp2_with (go_at_call 53; refine (up_no _ _ H4.out).mono ?_; rintro e w' ⟨rfl, rfl⟩)
      go_ret
      exact ⟨rfl, rfl⟩
  · have hl' : letc c = false := by simpa using hl
    rw [tokc_no hl']
    have h3 : ((c.toNat : Int) < 97 ∨ 122 < (c.toNat : Int)) ∧ ((c.toNat : Int) < 65 ∨ 90 < (c.toNat : Int)) ∧ ((c.toNat : Int) < 48 ∨ 57 < (c.toNat : Int)) := by
      unfold letc at hl'; simp at hl'; omega
    clear hl hl'
    obtain ⟨h1, h4, h5⟩ := h3
    have H4 := Lib.hid h4
    clear h4
    have hm : 0 ≤ mk c ↔ marks.contains c = true := mk_ge
    rcases hmk : marks.contains c with _ | _
    · have h6 : ¬ 0 ≤ mk c := by rw [hm, hmk]; simp
      clear hm hmk
      rcases h1 with h1 | h1 <;> rcases h5 with h5 | h5
      all_goals first | (exfalso; omega) | skip
      · have g1 : ¬ 97 ≤ (c.toNat : Int) := by omega
        have g2 : ¬ 48 ≤ (c.toNat : Int) := by omega
        clear h1 h5
        go_enter Tryz.func94, Tryz.ntmps94
        go_wp2_with (first | (go_at_call 53; refine (up_no _ _ H4.out).mono ?_; rintro e w' ⟨rfl, rfl⟩) | (go_at_call 57; refine (idx_byte c _).mono ?_; rintro e w' ⟨rfl, rfl⟩))
        go_ret
        first | exact ⟨rfl, rfl⟩ | exact ⟨ret_bool (by simp; omega), rfl⟩
      · have g1 : ¬ 97 ≤ (c.toNat : Int) := by omega
        have g2 : 48 ≤ (c.toNat : Int) := by omega
        have g3 : ¬ (c.toNat : Int) ≤ 57 := by omega
        clear h1 h5
        go_enter Tryz.func94, Tryz.ntmps94
        go_wp2_with (first | (go_at_call 53; refine (up_no _ _ H4.out).mono ?_; rintro e w' ⟨rfl, rfl⟩) | (go_at_call 57; refine (idx_byte c _).mono ?_; rintro e w' ⟨rfl, rfl⟩))
        go_ret
        first | exact ⟨rfl, rfl⟩ | exact ⟨ret_bool (by simp; omega), rfl⟩
      · have g1 : 97 ≤ (c.toNat : Int) := by omega
        have g2 : 48 ≤ (c.toNat : Int) := by omega
        have g3 : ¬ (c.toNat : Int) ≤ 57 := by omega
        have g4 : ¬ (c.toNat : Int) ≤ 122 := by omega
        clear h1 h5
        go_enter Tryz.func94, Tryz.ntmps94
        go_wp2_with (first | (go_at_call 53; refine (up_no _ _ H4.out).mono ?_; rintro e w' ⟨rfl, rfl⟩) | (go_at_call 57; refine (idx_byte c _).mono ?_; rintro e w' ⟨rfl, rfl⟩))
        go_ret
        first | exact ⟨rfl, rfl⟩ | exact ⟨ret_bool (by simp; omega), rfl⟩
    · have h6 : 0 ≤ mk c := by rw [hm]; exact hmk
      clear hm hmk
      rcases h1 with h1 | h1 <;> rcases h5 with h5 | h5
      all_goals first | (exfalso; omega) | skip
      · have g1 : ¬ 97 ≤ (c.toNat : Int) := by omega
        have g2 : ¬ 48 ≤ (c.toNat : Int) := by omega
        clear h1 h5
        go_enter Tryz.func94, Tryz.ntmps94
        go_wp2_with (first | (go_at_call 53; refine (up_no _ _ H4.out).mono ?_; rintro e w' ⟨rfl, rfl⟩) | (go_at_call 57; refine (idx_byte c _).mono ?_; rintro e w' ⟨rfl, rfl⟩))
        go_ret
        first | exact ⟨rfl, rfl⟩ | exact ⟨ret_bool (by simp; omega), rfl⟩
      · have g1 : ¬ 97 ≤ (c.toNat : Int) := by omega
        have g2 : 48 ≤ (c.toNat : Int) := by omega
        have g3 : ¬ (c.toNat : Int) ≤ 57 := by omega
        clear h1 h5
        go_enter Tryz.func94, Tryz.ntmps94
        go_wp2_with (first | (go_at_call 53; refine (up_no _ _ H4.out).mono ?_; rintro e w' ⟨rfl, rfl⟩) | (go_at_call 57; refine (idx_byte c _).mono ?_; rintro e w' ⟨rfl, rfl⟩))
        go_ret
        first | exact ⟨rfl, rfl⟩ | exact ⟨ret_bool (by simp; omega), rfl⟩
      · have g1 : 97 ≤ (c.toNat : Int) := by omega
        have g2 : 48 ≤ (c.toNat : Int) := by omega
        have g3 : ¬ (c.toNat : Int) ≤ 57 := by omega
        have g4 : ¬ (c.toNat : Int) ≤ 122 := by omega
        clear h1 h5
        go_enter Tryz.func94, Tryz.ntmps94
        go_wp2_with (first | (go_at_call 53; refine (up_no _ _ H4.out).mono ?_; rintro e w' ⟨rfl, rfl⟩) | (go_at_call 57; refine (idx_byte c _).mono ?_; rintro e w' ⟨rfl, rfl⟩))
        go_ret
        first | exact ⟨rfl, rfl⟩ | exact ⟨ret_bool (by simp; omega), rfl⟩

theorem in_byte (c : UInt8) (lo hi : Int) (w : World) :
    Calls Tryz.prog 86 #[.int .i64 (c.toNat : Int), .int .i64 lo, .int .i64 hi] w fun e w' => e = .returned (.bool (decide (lo ≤ (c.toNat : Int) ∧ (c.toNat : Int) ≤ hi))) ∧ w = w' := by
  by_cases h : lo ≤ (c.toNat : Int) ∧ (c.toNat : Int) ≤ hi
  · refine (NumDiv.in_yes _ _ _ _ h.1 h.2).mono ?_
    rintro e w' ⟨rfl, rfl⟩
    exact ⟨ret_bool (by simp [h]), rfl⟩
  · refine (NumDiv.in_no _ _ _ _ (by omega)).mono ?_
    rintro e w' ⟨rfl, rfl⟩
    exact ⟨ret_bool (by simp only [h, decide_false]), rfl⟩

set_option maxHeartbeats 1000000 in
theorem letter_byte (c : UInt8) (w : World) : Calls Tryz.prog 64 #[.int .u8 (c.toNat : Int)] w fun e w' => e = .returned (.bool (letc c)) ∧ w = w' := by
  have hub : (c.toNat : Int) ≤ 255 := by have := c.toNat_lt; omega
  have hub0 : 0 ≤ (c.toNat : Int) := by omega
  by_cases h1 : 97 ≤ (c.toNat : Int) ∧ (c.toNat : Int) ≤ 122
  · have e : letc c = true := by unfold letc; simp; omega
    rw [e]; clear e
    obtain ⟨a, b⟩ := h1
    go_enter Tryz.func64, Tryz.ntmps64
    go_wp2_with (go_at_call 86; (with_reducible refine (NumDiv.in_yes _ _ _ _ a b).mono ?_); rintro e w' ⟨rfl, rfl⟩)
    go_ret
    exact ⟨rfl, rfl⟩
  · have H1 := Lib.hid (show (c.toNat : Int) < 97 ∨ 122 < (c.toNat : Int) by omega)
    by_cases h2 : 65 ≤ (c.toNat : Int) ∧ (c.toNat : Int) ≤ 90
    · have e : letc c = true := by unfold letc; simp; omega
      rw [e]; clear e h1
      obtain ⟨a, b⟩ := h2
      go_enter Tryz.func64, Tryz.ntmps64
      go_wp2_with (fail)
      go_at_call 86
      refine (NumDiv.in_no _ _ _ _ H1.out).mono ?_
      rintro e w' ⟨rfl, rfl⟩
      go_wp2_with (fail)
      go_at_call 86
      refine (NumDiv.in_yes _ _ _ _ a b).mono ?_
      rintro e w' ⟨rfl, rfl⟩
      go_wp2
      go_ret
      exact ⟨rfl, rfl⟩
    · have H2 := Lib.hid (show (c.toNat : Int) < 65 ∨ 90 < (c.toNat : Int) by omega)
      have e : letc c = decide (48 ≤ (c.toNat : Int) ∧ (c.toNat : Int) ≤ 57) := by unfold letc; rw [Bool.eq_iff_iff]; simp; omega
      rw [e]; clear e h1 h2
      go_enter Tryz.func64, Tryz.ntmps64
      go_wp2_with (fail)
      go_at_call 86
      refine (NumDiv.in_no _ _ _ _ H1.out).mono ?_
      rintro e w' ⟨rfl, rfl⟩
      go_wp2_with (fail)
      go_at_call 86
      refine (NumDiv.in_no _ _ _ _ H2.out).mono ?_
      rintro e w' ⟨rfl, rfl⟩
      go_wp2_with (fail)
      go_at_call 86
      refine (in_byte c 48 57 _).mono ?_
      rintro e w' ⟨rfl, rfl⟩
      go_wp2
      go_ret
      exact ⟨ret_bool (by rw [Bool.decide_and]), rfl⟩

def mka (k : Nat) : UInt8 := marks.getD k 0
/-- The table of marks, read at a place. -/
theorem tab_fin : ∀ r : Fin 15, (⟨#[33, 35, 36, 37, 38, 39, 42, 43, 45, 46, 94, 95, 124, 126, 96]⟩ : ByteArray)[r.1]'(r.2) = mka r.1 := by decide
theorem tab_at (u : Nat) (h : u < (⟨#[33, 35, 36, 37, 38, 39, 42, 43, 45, 46, 94, 95, 124, 126, 96]⟩ : ByteArray).size) :
    ((⟨#[33, 35, 36, 37, 38, 39, 42, 43, 45, 46, 94, 95, 124, 126, 96]⟩ : ByteArray)[u]'h) = mka u := tab_fin ⟨u, h⟩
theorem mark_in {c : UInt8} {k : Nat} (h : k < 15) (e : mka k = c) : tokc c = true := by
  unfold tokc
  have : marks.contains c = true := by
    rw [← e]
    have hl : k < marks.length := h
    rw [show mka k = marks[k]'hl by unfold mka; simp [List.getD, hl]]
    simp
  rw [this, Bool.true_or]
theorem mark_out {c : UInt8} (h : ∀ j, j < 15 → mka j ≠ c) : tokc c = letc c := by
  unfold tokc
  have : marks.contains c = false := by
    rw [Bool.eq_false_iff]
    intro hc
    have hm : c ∈ marks := by simpa using hc
    obtain ⟨j, hj, e⟩ := List.getElem_of_mem hm
    have hl : marks.length = 15 := rfl
    exact h j (by omega) (by unfold mka; simp [List.getD, hj, e])
  rw [this, Bool.false_or]

end Go.Proofs.YtegaakgmfphcaaaGreatDoor.Tx

/-
  CONTRACTS of both sides' IsToken: at every text each returns whether it is a token; the world stays as it was.
-/
namespace Go.Proofs.YtegaakgmfphcaaaGreatDoor.Tx
open Go Go.RowKit
set_option linter.unusedVariables false
set_option maxRecDepth 1000000

theorem all_more {s : ByteArray} {k : Nat} (h : k < s.size) (ha : (s.data.toList.take k).all tokc = true) (hc : tokc s[k] = true) : (s.data.toList.take (k + 1)).all tokc = true := by
  rw [take_snoc s k h, List.all_append, ha, List.all_cons, hc]; rfl
theorem token_bad {s : ByteArray} {k : Nat} (h : k < s.size) (hc : tokc s[k] = false) : token s.data.toList = false := by
  unfold token
  have : s.data.toList.all tokc = false := by
    rw [Bool.eq_false_iff]
    intro ha
    have hm : s[k] ∈ s.data.toList := by
      rw [← List.take_append_drop k s.data.toList, drop_cons s k h]; simp
    have := List.all_eq_true.1 ha _ hm
    rw [hc] at this; cases this
  rw [this, Bool.false_and]
theorem token_all {s : ByteArray} {k : Nat} (h : k = s.size) (ha : (s.data.toList.take k).all tokc = true) : token s.data.toList = decide (1 ≤ (s.size : Int) ∧ (s.size : Int) ≤ 40) := by
  have e : s.data.toList.take k = s.data.toList := List.take_of_length_le (by rw [list_len]; omega)
  rw [e] at ha
  unfold token
  rw [ha, Bool.true_and, list_len, Bool.eq_iff_iff]; simp; omega
theorem token_len {s : ByteArray} (h : s.size < 1 ∨ 40 < s.size) : token s.data.toList = false := by
  unfold token
  rw [list_len]
  have : decide (1 ≤ s.size ∧ s.size ≤ 40) = false := by simp; omega
  rw [this, Bool.and_false]

set_option maxHeartbeats 1000000 in
theorem impl_token (s : ByteArray) (w : World) (hs : s.size ≤ 9223372036854775806) :
    Calls Tryz.prog 76 #[.string s] w fun e w' => e = .returned (.bool (token s.data.toList)) ∧ w = w' := by
  by_cases h1 : (s.size : Int) < 1
  · have HT := Lib.hid (token_len (s := s) (Or.inl (by omega)))
    go_enter Tryz.func76, Tryz.ntmps76
    go_wp2
    go_ret
    exact ⟨ret_bool HT.out.symm, rfl⟩
  · by_cases h2 : 40 < (s.size : Int)
    · have HT := Lib.hid (token_len (s := s) (Or.inr (by omega)))
      go_enter Tryz.func76, Tryz.ntmps76
      go_wp2
      go_ret
      exact ⟨ret_bool HT.out.symm, rfl⟩
    · go_enter Tryz.func76, Tryz.ntmps76
      go_wp2
      go_loop [3, 14] (fun j i => ∃ k : Nat, k ≤ s.size ∧ i = .int .i64 k ∧ (s.data.toList.take k).all tokc = true) (fun _ i => s.size - (intOf i).toNat)
      case atStart => exact ⟨0, Nat.zero_le _, rfl, rfl⟩
      case round =>
        obtain ⟨k, hk, rfl, ha⟩ := hrel
        have HA := Lib.hid ha
        clear ha
        by_cases hlt : k < s.size
        · have hc1 := tok_byte s[k]
          rcases hc : tokc s[k] with _ | _
          · have HT := Lib.hid (token_bad hlt hc)
            rw [hc] at hc1
            clear hc
            go_wp2_with (go_at_call 94; refine (hc1 _).mono ?_; rintro e w' ⟨rfl, rfl⟩)
            go_ret
            exact ⟨ret_bool HT.out.symm, rfl⟩
          · have HT := Lib.hid (all_more hlt HA.out hc)
            rw [hc] at hc1
            clear hc
            go_wp2_with (go_at_call 94; refine (hc1 _).mono ?_; rintro e w' ⟨rfl, rfl⟩)
            go_round
            case rel => exact ⟨k + 1, by omega, by go_num, HT.out⟩
            case measure => simp [intOf]; omega
        · have HT := Lib.hid (token_all (show k = s.size by omega) HA.out)
          have HB := Lib.hid (And.intro h1 h2)
          go_wp2
          go_ret
          exact ⟨ret_bool (by rw [HT.out]; symm; simp; have := HB.out; omega), rfl⟩
end Go.Proofs.YtegaakgmfphcaaaGreatDoor.Tx

/-
  PLAIN FACTS on a quoted string that is being read.
-/
namespace Go.Proofs.YtegaakgmfphcaaaGreatDoor.Tx
open Go Go.RowKit Bys
set_option linter.unusedVariables false
set_option maxRecDepth 1000000

theorem unq_nil : unq [] = ([], none) := by rw [unq]
theorem unq_34 (r : List UInt8) : unq (34 :: r) = ([], some r) := by cases r <;> simp [unq]
theorem unq_esc (d : UInt8) (r : List UInt8) : unq (92 :: d :: r) = (d :: (unq r).1, (unq r).2) := by rw [unq, if_neg (by decide), if_pos (by decide)]
theorem unq_plain {c : UInt8} {r : List UInt8} (h1 : c ≠ 34) (h2 : c ≠ 92 ∨ r = []) : unq (c :: r) = (c :: (unq r).1, (unq r).2) := by
  have h34 : ¬ (c == 34) = true := by simpa using h1
  cases r with
  | nil => simp [unq, h1]
  | cons d t =>
    rcases h2 with h2 | h2
    · rw [unq, if_neg h34, if_neg (by simpa using h2)]
    · cases h2
/-- What is read when k bytes are behind: l so far. -/
def UQ (s : ByteArray) (k : Nat) (l : List UInt8) : Prop := l ++ (unq (s.data.toList.drop k)).1 = unqText s.data.toList ∧ (unq (s.data.toList.drop k)).2 = (unq (s.data.toList.drop 1)).2 ∧ l.length ≤ k
theorem uq_start (s : ByteArray) : UQ s 1 [] := ⟨by unfold unqText; simp, rfl, by simp⟩
theorem uq_plain {s : ByteArray} {k : Nat} {l : List UInt8} (h : UQ s k l) (hk : k < s.size) (h1 : s[k] ≠ 34) (h2 : s[k] ≠ 92 ∨ s.size ≤ k + 1) : UQ s (k + 1) (l ++ [s[k]]) := by
  obtain ⟨a, b, c⟩ := h
  have h2' : s[k] ≠ 92 ∨ s.data.toList.drop (k + 1) = [] := by
    rcases h2 with h2 | h2
    · exact Or.inl h2
    · exact Or.inr (List.drop_eq_nil_of_le (by rw [list_len]; exact h2))
  rw [drop_cons s k hk, unq_plain h1 h2'] at a b
  exact ⟨by rw [List.append_assoc]; exact a, b, by rw [List.length_append]; simp; omega⟩
theorem uq_esc {s : ByteArray} {k : Nat} {l : List UInt8} (h : UQ s k l) (hk : k < s.size) (hk1 : k + 1 < s.size) (h2 : s[k] = 92) : UQ s (k + 1 + 1) (l ++ [s[k + 1]]) := by
  obtain ⟨a, b, c⟩ := h
  rw [drop_cons s k hk, drop_cons s (k + 1) hk1, h2, unq_esc] at a b
  exact ⟨by rw [List.append_assoc]; exact a, b, by rw [List.length_append]; simp; omega⟩
theorem uq_end {s : ByteArray} {k : Nat} {l : List UInt8} (h : UQ s k l) (hk : s.size ≤ k) : l = unqText s.data.toList ∧ unqOk s.data.toList = false := by
  obtain ⟨a, b, c⟩ := h
  rw [List.drop_eq_nil_of_le (by rw [list_len]; exact hk), unq_nil] at a b
  refine ⟨by simpa using a, ?_⟩
  unfold unqOk
  rw [← b]; simp
theorem head_at {s : ByteArray} (h : 0 < s.size) : s.data.toList.head? = some s[0] := by
  have := drop_cons s 0 h
  rw [List.drop_zero] at this
  rw [this]; rfl
theorem uq_quote {s : ByteArray} {k : Nat} {l : List UInt8} (h : UQ s k l) (hk : k < s.size) (h1 : s[k] = 34) (h0 : 0 < s.size) : l = unqText s.data.toList ∧ unqOk s.data.toList = (s[0] == 34 && ((k : Int) == (s.size : Int) - 1)) := by
  obtain ⟨a, b, c⟩ := h
  rw [drop_cons s k hk, h1, unq_34] at a b
  refine ⟨by simpa using a, ?_⟩
  unfold unqOk
  rw [← b, head_at h0, Bool.eq_iff_iff, Bool.and_eq_true, Bool.and_eq_true]
  refine and_congr (by simp) ?_
  simp only [beq_iff_eq, Option.some.injEq, List.drop_eq_nil_iff, list_len]
  omega

/-- How UnquoteText ends. -/
def Unq (l : List UInt8) (w : World) (e : Ending) (w' : World) : Prop := e = .returned (.tuple #[.string ⟨(unqText l).toArray⟩, .bool (unqOk l)]) ∧ Below w.heap.size w w'
theorem unq_ret {l m : List UInt8} {b : Bool} {w : World} {e : Ending} {w' : World} (h : m = unqText l ∧ unqOk l = b) (hb : Below w.heap.size w w') (he : e = .returned (.tuple #[.string ⟨m.toArray⟩, .bool b])) : Unq l w e w' := by
  obtain ⟨rfl, rfl⟩ := h; exact ⟨he, hb⟩
theorem below_drewN {B : Nat} {a w : World} (h : Below B a w) (n : Nat) : Below B a (w.drewN n) := ⟨h.os, h.tape, h.output, h.size, h.block⟩

end Go.Proofs.YtegaakgmfphcaaaGreatDoor.Tx

/-
  CONTRACT of the program's UnquoteText: at every text it returns what a quoted string means and whether the text is just one; nothing that was there before is changed.
-/
namespace Go.Proofs.YtegaakgmfphcaaaGreatDoor.Tx
open Go Go.RowKit Bys
set_option linter.unusedVariables false
set_option maxRecDepth 1000000

end Go.Proofs.YtegaakgmfphcaaaGreatDoor.Tx

/-
  CONTRACTS of the program's parseDirective and directiveValue: an element that is a directive, or an error; nothing that was there before is changed.
-/
namespace Go.Proofs.YtegaakgmfphcaaaGreatDoor.Dir
open Go Go.RowKit
set_option linter.unusedVariables false
set_option maxRecDepth 1000000

def Got (t : List UInt8) (w : World) (e : Ending) (w' : World) : Prop := e = .returned (.tuple #[.string ⟨t.toArray⟩, .nilIface]) ∧ Below w.heap.size w w'
def Bad (w : World) (e : Ending) (w' : World) : Prop := (∃ tp p, e = .returned (.tuple #[.string ⟨#[]⟩, .iface tp p])) ∧ Below w.heap.size w w'

/-- The result's own cells are there behind what a call did. -/
theorem res_kept {w w1 : World} {T : TypeId} {x y z : Value} (hb : Below (w.alloc (.cells #[x, y, z] T)).heap.size (w.alloc (.cells #[x, y, z] T)) w1) :
    w1.cell? ⟨w.heap.size, 0, none⟩ = some x ∧ w1.cell? ⟨w.heap.size, 1, none⟩ = some y ∧ w1.cell? ⟨w.heap.size, 2, none⟩ = some z ∧ w1.frozen? ⟨w.heap.size, 0, none⟩ = false ∧ w1.frozen? ⟨w.heap.size, 1, none⟩ = false ∧ w1.frozen? ⟨w.heap.size, 2, none⟩ = false := by
  refine ⟨?_, ?_, ?_, ?_, ?_, ?_⟩
  · rw [hb.cell (p := ⟨w.heap.size, 0, none⟩) (by simp), World.cell?_alloc_new]; rfl
  · rw [hb.cell (p := ⟨w.heap.size, 1, none⟩) (by simp), World.cell?_alloc_new]; rfl
  · rw [hb.cell (p := ⟨w.heap.size, 2, none⟩) (by simp), World.cell?_alloc_new]; rfl
  · rw [hb.frozen (p := ⟨w.heap.size, 0, none⟩) (by simp)]; simp [go_sem]
  · rw [hb.frozen (p := ⟨w.heap.size, 1, none⟩) (by simp)]; simp [go_sem]
  · rw [hb.frozen (p := ⟨w.heap.size, 2, none⟩) (by simp)]; simp [go_sem]

def PdYes (d : T) (w : World) (e : Ending) (w' : World) : Prop := e = .returned (.tuple #[fv d, .nilIface]) ∧ Below w.heap.size w w'
def PdNo (w : World) (e : Ending) (w' : World) : Prop := (∃ tp p, e = .returned (.tuple #[fv ([], [], false), .iface tp p])) ∧ Below w.heap.size w w'
theorem pair_i {x a b : List UInt8} {q : Bool} (hp : Tx.pairs x = (a, b, q)) (hl : x.length ≤ 1048576) (W : World) : Calls Tryz.prog 95 #[.string ⟨x.toArray⟩] W fun e w' => e = .returned (.tuple #[.string ⟨a.toArray⟩, .string ⟨b.toArray⟩, .bool q]) ∧ Below W.heap.size W w' := by
  have h := Tx.impl_pair ⟨x.toArray⟩ W (by simp [ByteArray.size]; omega)
  unfold Tx.PairEnd at h
  rw [show (⟨x.toArray⟩ : ByteArray).data.toList = x from rfl, hp] at h
  exact h
theorem tok_i (a : List UInt8) (hl : a.length ≤ 1048576) (W : World) : Calls Tryz.prog 76 #[.string ⟨a.toArray⟩] W fun e w' => e = .returned (.bool (Tx.token a)) ∧ W = w' := Tx.impl_token ⟨a.toArray⟩ W (by simp [ByteArray.size]; omega)
theorem low_i (a : List UInt8) (hl : a.length ≤ 1048576) (W : World) : Calls Tryz.prog 27 #[.string ⟨a.toArray⟩] W fun e w' => e = .returned (.string ⟨(Tx.lower a).toArray⟩) ∧ Below W.heap.size W w' := Tx.impl_lower ⟨a.toArray⟩ W (by simp [ByteArray.size]; omega)

end Go.Proofs.YtegaakgmfphcaaaGreatDoor.Dir

/-
  CONTRACT of the laws' comparison of two slices of texts (eqStringS): where both hold the same texts it returns true; nothing that was there before is changed.
-/
namespace Go.Proofs.YtegaakgmfphcaaaGreatDoor.Strs
open Go Go.RowKit
set_option linter.unusedVariables false
set_option maxRecDepth 1000000

def Yes (w : World) (e : Ending) (w' : World) : Prop := e = .returned (.bool true) ∧ Below w.heap.size w w'
theorem below_drew {B : Nat} {a w : World} (h : Below B a w) : Below B a w.drew := ⟨h.os, h.tape, h.output, h.size, h.block⟩

end Go.Proofs.YtegaakgmfphcaaaGreatDoor.Strs

/-
  CONTRACTS of the weights of qualities: the model's l13Weight, the program's readWeight and readParameter; nothing that was there before is changed.
-/
namespace Go.Proofs.YtegaakgmfphcaaaGreatDoor.Qua
open Go Go.RowKit
set_option linter.unusedVariables false
set_option maxRecDepth 1000000
set_option maxRecDepth 1000000

def wint (s : List UInt8) : Int := match wgt s with | some n => (n : Int) | none => -1
theorem wint_some {s : List UInt8} {n : Nat} (h : wgt s = some n) : wint s = n := by unfold wint; rw [h]
theorem wint_none {s : List UInt8} (h : wgt s = none) : wint s = -1 := by unfold wint; rw [h]
def wpair (o : Option Nat) : Value := match o with | some n => .tuple #[.int .i64 (n : Int), .bool true] | none => .tuple #[.int .i64 0, .bool false]
theorem wpair_some {o : Option Nat} {n : Nat} (h : o = some n) : wpair o = .tuple #[.int .i64 (n : Int), .bool true] := by rw [h]; rfl
theorem wpair_none {o : Option Nat} (h : o = none) : wpair o = .tuple #[.int .i64 0, .bool false] := by rw [h]; rfl
theorem ret_i {a b : Int} (h : a = b) : Ending.returned (.int .i64 a) = .returned (.int .i64 b) := by rw [h]
theorem ret_v {a b : Value} (h : a = b) : Ending.returned a = .returned b := by rw [h]
theorem bsz (y : List UInt8) : (⟨y.toArray⟩ : ByteArray).size = y.length := by simp [ByteArray.size]
theorem list_of {s : ByteArray} (h : 2 ≤ s.size) : s.data.toList = s[0] :: s[1] :: s.data.toList.drop 2 := by
  have h0 := Tx.drop_cons s 0 (by omega)
  have h1 := Tx.drop_cons s 1 (by omega)
  rw [List.drop_zero] at h0
  rw [h0, h1]; rfl
theorem list_one {s : ByteArray} (h : s.size = 1) : s.data.toList = [s[0]'(by omega)] := by
  have h0 := Tx.drop_cons s 0 (by omega)
  rw [List.drop_zero] at h0
  rw [h0, List.drop_of_length_le (by rw [Tx.list_len]; omega)]
def mid (s : ByteArray) (k : Nat) : List UInt8 := (s.data.toList.drop 2).take (k - 2)
theorem mid_more {s : ByteArray} {k : Nat} (h2 : 2 ≤ k) (hk : k < s.size) : mid s (k + 1) = mid s k ++ [s[k]] := by
  unfold mid
  rw [show k + 1 - 2 = (k - 2) + 1 by omega, List.take_add_one, List.getElem?_drop, show 2 + (k - 2) = k by omega]
  rw [List.getElem?_eq_getElem (by rw [Tx.list_len]; exact hk)]
  rfl
theorem mid_len {s : ByteArray} {k : Nat} (h : k ≤ s.size) : (mid s k).length = k - 2 := by
  unfold mid; rw [List.length_take, List.length_drop, Tx.list_len]; omega
theorem mid_all {s : ByteArray} : mid s s.size = s.data.toList.drop 2 := by
  unfold mid; exact List.take_of_length_le (by rw [List.length_drop, Tx.list_len]; omega)
theorem mid_two (s : ByteArray) : mid s 2 = [] := by unfold mid; simp
/-- The unit at a place. -/
def unt (k : Nat) : Int := ((10 ^ (4 - k) : Nat) : Int) * (if k ≤ 4 then 1 else 0)
theorem unt_cases {k : Nat} (h : 2 ≤ k) (h5 : k < 5) : (10 ^ (2 - (k - 2)) = 100 ∧ unt k = 100 ∧ unt (k + 1) = 10) ∨ (10 ^ (2 - (k - 2)) = 10 ∧ unt k = 10 ∧ unt (k + 1) = 1) ∨ (10 ^ (2 - (k - 2)) = 1 ∧ unt k = 1 ∧ unt (k + 1) = 0) := by
  have : k = 2 ∨ k = 3 ∨ k = 4 := by omega
  rcases this with rfl | rfl | rfl
  · exact Or.inl ⟨rfl, by decide, by decide⟩
  · exact Or.inr (Or.inl ⟨rfl, by decide, by decide⟩)
  · exact Or.inr (Or.inr ⟨rfl, by decide, by decide⟩)
theorem wfold_small {c : UInt8} {d : List UInt8} (hc : c.toNat ≤ 49) (hd : d.length ≤ 3) (h : digs d = true) : wfold c d ≤ 1999 := by
  have h1 := val_small d 1 (c.toNat - 48) (dig_iff h) (by omega)
  unfold wfold
  have h9 := dig_iff h
  match d, hd, h9 with
  | [], _, _ => rw [Par.val_nil]; simp; omega
  | [x], _, h9 => have := h9 x (by simp); simp only [Par.val, Par.stp, List.foldl_cons, List.foldl_nil, List.length_cons, List.length_nil]; omega
  | [x, y], _, h9 => have := h9 x (by simp); have := h9 y (by simp); simp only [Par.val, Par.stp, List.foldl_cons, List.foldl_nil, List.length_cons, List.length_nil]; omega
  | [x, y, z], _, h9 => have := h9 x (by simp); have := h9 y (by simp); have := h9 z (by simp); simp only [Par.val, Par.stp, List.foldl_cons, List.foldl_nil, List.length_cons, List.length_nil]; omega
theorem digs_more {d : List UInt8} {x : UInt8} (h : digs d = true) (h1 : 48 ≤ (x.toNat : Int)) (h2 : (x.toNat : Int) ≤ 57) : digs (d ++ [x]) = true := by
  unfold digs at h ⊢; rw [List.all_append, h]; simp [Par.isDig]; omega
theorem digs_bad {s : ByteArray} {k : Nat} (h2 : 2 ≤ k) (hk : k < s.size) (h : (s[k].toNat : Int) < 48 ∨ 57 < (s[k].toNat : Int)) : digs (s.data.toList.drop 2) = false := by
  unfold digs
  rw [List.all_eq_false]
  refine ⟨s[k], ?_, by simp [Par.isDig]; omega⟩
  have : s[k] = (s.data.toList.drop 2)[k - 2]'(by rw [List.length_drop, Tx.list_len]; omega) := by
    rw [List.getElem_drop]; simp only [show 2 + (k - 2) = k by omega]; rfl
  rw [this]; exact List.getElem_mem _

end Go.Proofs.YtegaakgmfphcaaaGreatDoor.Qua

/-
  CONTRACTS of the program's readWeight and readParameter; nothing that was there before is changed.
-/
namespace Go.Proofs.YtegaakgmfphcaaaGreatDoor.Qua
open Go Go.RowKit
set_option linter.unusedVariables false
set_option maxRecDepth 1000000
set_option maxRecDepth 1000000

theorem ext_zeros (n : Nat) (h : n ≤ 3) : (⟨#[48, 48, 48]⟩ : ByteArray).extract n 3 = ⟨(List.replicate (3 - n) 48).toArray⟩ := by
  have : n = 0 ∨ n = 1 ∨ n = 2 ∨ n = 3 := by omega
  rcases this with rfl | rfl | rfl | rfl <;> rfl
theorem cut_pt (r : List UInt8) (W : World) (hl : r.length ≤ 4194304) : Calls Tryz.prog 45 #[.string ⟨r.toArray⟩, .string ⟨#[46]⟩] W fun e w' => e = .returned (.tuple #[.string ⟨(Tx.cutAt 46 r).1.toArray⟩, .string ⟨(Tx.cutAt 46 r).2.1.toArray⟩, .bool (Tx.cutAt 46 r).2.2]) ∧ Below W.heap.size W w' := Tx.cut_any ⟨r.toArray⟩ 46 W (by simp [ByteArray.size]; omega)
theorem wpair_at {o : Option Nat} {v : Value} {w w' : World} (h : wpair o = v) (hb : Below w.heap.size w w') : Ending.returned v = .returned (wpair o) ∧ Below w.heap.size w w' := ⟨by rw [h], hb⟩

set_option maxHeartbeats 4000000 in
theorem impl_weight (l : List UInt8) (w : World) (hl : l.length ≤ 1048576) (he : Par.Errs w) :
    Calls Tryz.prog 96 #[.string ⟨l.toArray⟩] w fun e w' => e = .returned (wpair (wgt l)) ∧ Below w.heap.size w w' := by
  have HC := Lib.hid (fun W => cut_pt l W (by omega))
  have HER := Lib.hid (fun W (hb : Below w.heap.size w W) => Par.errs_below he hb)
  have HWG : Hid (wgt l = wgt2 (Tx.cutAt 46 l).1 (Tx.cutAt 46 l).2.1) := Lib.hid rfl
  have hcl := Tx.cutAt_len 46 l
  generalize wgt l = g at *
  generalize Tx.cutAt 46 l = ct at *
  obtain ⟨a, d, b⟩ := ct
  simp only at HC HWG hcl
  have hbs := bsz d
  have hdl : d.length ≤ 1048576 := by omega
  clear he hl hcl
  by_cases ha : a = [48] ∨ a = [49]
  case neg =>
    have HF := Lib.hid (wpair_none (HWG.out.trans (wgt2_no (fun x => ha x.1))))
    have q1 : (a != [48]) = true := by rw [bne_iff_ne]; exact fun e => ha (Or.inl e)
    have q2 : (a != [49]) = true := by rw [bne_iff_ne]; exact fun e => ha (Or.inr e)
    have n1 : ¬ a = [48] := fun e => ha (Or.inl e)
    have n2 : ¬ a = [49] := fun e => ha (Or.inr e)
    clear HWG HER ha
    go_enter Tryz.func96, Tryz.ntmps96
    go_wp2_with (fail)
    go_at_call 45
    refine (HC.out _).mono ?_
    rintro e w1 ⟨rfl, b1⟩
    have HB := Lib.hid b1
    clear b1
    go_wp2
    go_ret2
    exact wpair_at HF.out HB.out
  by_cases h3 : (d.length : Int) ≤ 3
  case neg =>
    have h3' : 3 < (d.length : Int) := by omega
    have HF := Lib.hid (wpair_none (HWG.out.trans (wgt2_no (fun x => by have := x.2; omega))))
    clear HWG HER
    rcases ha with rfl | rfl
    all_goals
      go_enter Tryz.func96, Tryz.ntmps96
      go_wp2_with (fail)
      go_at_call 45
      refine (HC.out _).mono ?_
      rintro e w1 ⟨rfl, b1⟩
      have HB := Lib.hid b1
      clear b1
      go_wp2
      go_ret2
      exact wpair_at HF.out HB.out
  have h3' : ¬ 3 < (d.length : Int) := by omega
  have hdn : d.length ≤ 3 := by omega
  have HX := Lib.hid (ext_zeros d.length hdn)
  have HZL : Hid ((List.replicate (3 - d.length) (48 : UInt8)).length ≤ 3) := Lib.hid (by simp)
  have HA := Lib.hid ha
  have HAT : Hid (digs d = true → Lib.atoiAll (⟨(a ++ d ++ List.replicate (3 - d.length) 48).toArray⟩ : ByteArray).data.toList = .ok (wnum a d : Int)) := Lib.hid (fun h => atoi_w ha hdn h)
  have HAF : Hid (digs d = false → ∀ v, Lib.atoiAll (⟨(a ++ d ++ List.replicate (3 - d.length) 48).toArray⟩ : ByteArray).data.toList ≠ .ok v) := Lib.hid (fun h => atoi_no ha hdn h)
  have HSZ : Hid ((⟨(a ++ d ++ List.replicate (3 - d.length) 48).toArray⟩ : ByteArray).size ≤ 281474976710656) := Lib.hid (by rw [bsz]; rcases ha with rfl | rfl <;> simp <;> omega)
  have A1 := Tx.addtwo a d (by rcases ha with rfl | rfl <;> simp <;> omega)
  have A2 : ∀ W : World, (Op.stringOp .add ⟨(a ++ d).toArray⟩ ((⟨#[48, 48, 48]⟩ : ByteArray).extract d.length 3)).run Tryz.prog W = .ok (.string ⟨(a ++ d ++ List.replicate (3 - d.length) 48).toArray⟩) W := by
    rw [HX.out]; exact Tx.addtwo (a ++ d) _ (by rcases ha with rfl | rfl <;> simp <;> omega)
  generalize a ++ d ++ List.replicate (3 - d.length) 48 = al at *
  generalize hz1 : a ++ d = ad at *
  have hi3 : (d.length : Int).toNat = d.length := by omega
  have HW1 : Hid (digs d = true → wnum a d ≤ 1000 → g = some (wnum a d)) := Lib.hid (fun h1 h2 => HWG.out.trans (wgt2_yes ha hdn h1 h2))
  have HW2 : Hid (1000 < wnum a d → g = none) := Lib.hid (fun h2 => HWG.out.trans (wgt2_big h2))
  have HW3 : Hid (digs d = false → g = none) := Lib.hid (fun h2 => HWG.out.trans (wgt2_dig h2))
  generalize wnum a d = n at *
  clear HWG hz1 HX HZL
  cases hd : digs d with
  | false =>
    have HF := Lib.hid (wpair_none (HW3.out hd))
    have HAE := Lib.hid (fun W hb => Par.atoi_err ⟨al.toArray⟩ HSZ.out (HAF.out hd) W (HER.out W hb))
    clear HW1 HW2 HW3 HAT HAF hd HER
    rcases ha with rfl | rfl
    all_goals
      go_enter Tryz.func96, Tryz.ntmps96
      go_wp2_with (fail)
      go_at_call 45
      refine (HC.out _).mono ?_
      rintro e w1 ⟨rfl, b1⟩
      have HB := Lib.hid b1
      clear b1
      go_wp2_with (fail)
      go_at_call 133
      refine (HAE.out _ HB.out).mono ?_
      rintro e w2 ⟨⟨z, p, rfl⟩, b2⟩
      have HB2 := Lib.hid (Base.then_below HB.out b2)
      clear b2
      go_wp2
      go_ret2
      exact wpair_at HF.out HB2.out
  | true =>
    have HAE := Lib.hid (fun W => Par.atoi_ok ⟨al.toArray⟩ HSZ.out n (HAT.out hd) W)
    by_cases hn : n ≤ 1000
    · have HF := Lib.hid (wpair_some (HW1.out hd hn))
      have hn' : ¬ 1000 < (n : Int) := by omega
      clear HW1 HW2 HW3 HAT HAF hd HER
      rcases ha with rfl | rfl
      all_goals
        go_enter Tryz.func96, Tryz.ntmps96
        go_wp2_with (fail)
        go_at_call 45
        refine (HC.out _).mono ?_
        rintro e w1 ⟨rfl, b1⟩
        have HB := Lib.hid b1
        clear b1
        go_wp2_with (fail)
        go_at_call 133
        refine (HAE.out _).mono ?_
        rintro e w2 ⟨rfl, b2⟩
        have HB2 := Lib.hid (Base.then_below HB.out b2)
        clear b2
        go_wp2
        go_ret2
        exact wpair_at HF.out HB2.out
    · have HF := Lib.hid (wpair_none (HW2.out (by omega)))
      have hn' : 1000 < (n : Int) := by omega
      clear HW1 HW2 HW3 HAT HAF hd HER
      rcases ha with rfl | rfl
      all_goals
        go_enter Tryz.func96, Tryz.ntmps96
        go_wp2_with (fail)
        go_at_call 45
        refine (HC.out _).mono ?_
        rintro e w1 ⟨rfl, b1⟩
        have HB := Lib.hid b1
        clear b1
        go_wp2_with (fail)
        go_at_call 133
        refine (HAE.out _).mono ?_
        rintro e w2 ⟨rfl, b2⟩
        have HB2 := Lib.hid (Base.then_below HB.out b2)
        clear b2
        go_wp2
        go_ret2
        exact wpair_at HF.out HB2.out

set_option maxHeartbeats 4000000 in
theorem impl_param (l : List UInt8) (w : World) (hl : l.length ≤ 1048576) (he : Par.Errs w) :
    Calls Tryz.prog 77 #[.string ⟨l.toArray⟩] w fun e w' => e = .returned (wpair (qpar l)) ∧ Below w.heap.size w w' := by
  obtain ⟨⟨a, b, q⟩, hp⟩ : ∃ p, Tx.pairs l = p := ⟨_, rfl⟩
  have hla : a.length ≤ 1048576 ∧ b.length ≤ 1048576 := by
    have h1 := Tx.cutAt_len 61 l
    have h2 := Tx.trim_short (Tx.cutAt 61 l).1
    have h3 := Tx.trim_short (Tx.cutAt 61 l).2.1
    unfold Tx.pairs at hp
    cases hp
    omega
  have HP := Lib.hid (Dir.pair_i hp hl)
  have HL := Lib.hid (Dir.low_i a hla.1)
  have HWT := Lib.hid (fun W (hb : Below w.heap.size w W) => impl_weight b W hla.2 (Par.errs_below he hb))
  have HE : Hid (qpar l = if Tx.lower a = [113] then wgt b else none) := Lib.hid (by unfold qpar; rw [hp])
  generalize qpar l = g at *
  generalize Tx.lower a = la at *
  clear hp he
  by_cases h : la = [113]
  · subst h
    have HF : Hid (wpair g = wpair (wgt b)) := Lib.hid (by rw [HE.out, if_pos rfl])
    clear HE
    cases hg : wgt b with
    | none =>
      rw [hg] at HF HWT
      have hq : wpair none = .tuple #[.int .i64 0, .bool false] := rfl
      rw [hq] at HWT HF
      go_enter Tryz.func77, Tryz.ntmps77
      go_wp2_with (fail)
      go_at_call 95
      refine (HP.out _).mono ?_
      rintro e w1 ⟨rfl, b1⟩
      have HB := Lib.hid b1
      clear b1
      go_wp2_with (fail)
      go_at_call 27
      refine (HL.out _).mono ?_
      rintro e w2 ⟨rfl, b2⟩
      have HB := Lib.hid (Base.then_below HB.out b2)
      clear b2
      go_wp2_with (fail)
      go_at_call 96
      refine (HWT.out _ HB.out).mono ?_
      rintro e w3 ⟨rfl, b3⟩
      have HB := Lib.hid (Base.then_below HB.out b3)
      clear b3
      go_wp2
      go_ret2
      exact wpair_at HF.out HB.out
    | some n =>
      rw [hg] at HF HWT
      have hq : wpair (some n) = .tuple #[.int .i64 (n : Int), .bool true] := rfl
      rw [hq] at HWT HF
      go_enter Tryz.func77, Tryz.ntmps77
      go_wp2_with (fail)
      go_at_call 95
      refine (HP.out _).mono ?_
      rintro e w1 ⟨rfl, b1⟩
      have HB := Lib.hid b1
      clear b1
      go_wp2_with (fail)
      go_at_call 27
      refine (HL.out _).mono ?_
      rintro e w2 ⟨rfl, b2⟩
      have HB := Lib.hid (Base.then_below HB.out b2)
      clear b2
      go_wp2_with (fail)
      go_at_call 96
      refine (HWT.out _ HB.out).mono ?_
      rintro e w3 ⟨rfl, b3⟩
      have HB := Lib.hid (Base.then_below HB.out b3)
      clear b3
      go_wp2
      go_ret2
      exact wpair_at HF.out HB.out
  · have HF := Lib.hid (wpair_none (HE.out.trans (if_neg h)))
    have hq : (la == [113]) = false := beq_eq_false_iff_ne.2 h
    have hq2 : (!la == [113]) = true := by rw [hq]; rfl
    clear HE
    go_enter Tryz.func77, Tryz.ntmps77
    go_wp2_with (fail)
    go_at_call 95
    refine (HP.out _).mono ?_
    rintro e w1 ⟨rfl, b1⟩
    have HB := Lib.hid b1
    clear b1
    go_wp2_with (fail)
    go_at_call 27
    refine (HL.out _).mono ?_
    rintro e w2 ⟨rfl, b2⟩
    have HB := Lib.hid (Base.then_below HB.out b2)
    clear b2
    go_wp2
    go_ret2
    exact wpair_at HF.out HB.out
end Go.Proofs.YtegaakgmfphcaaaGreatDoor.Qua
