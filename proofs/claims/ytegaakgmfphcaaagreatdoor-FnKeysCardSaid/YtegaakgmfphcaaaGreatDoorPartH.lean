/-
  CONTRACTS AND PLAIN FACTS, several texts in one; each says in its own words what it proves.
-/
import Derived.Test.YtegaakgmfphcaaaGreatDoorPartB
import Derived.Test.YtegaakgmfphcaaaGreatDoorPartG
import Derived.Test.YtegaakgmfphcaaaGreatDoorPartF
import Derived.LoopTactic
import Derived.Test.YtegaakgmfphcaaaGreatDoorPartA
import Derived.Deep.QuietTactic
import Derived.BigQuiet
import Derived.Lib.AppendStr
import Derived.Laws.DeepStrings4
set_option linter.unusedSimpArgs false
set_option linter.unusedVariables false

/-
  CONTRACTS of both sides' tests of the bytes of tokens, and of IsToken: each returns what the rule says; the world stays as it was.
-/
namespace Go.Proofs.YtegaakgmfphcaaaGreatDoor.Tx
open Go Go.RowKit
set_option linter.unusedVariables false
set_option maxRecDepth 1000000

/-! the marks -/
def mk (c : UInt8) : Int := Lib.indexByte marks c
theorem index_contains (l : List UInt8) (c : UInt8) : 0 ≤ Lib.indexByte l c ↔ l.contains c = true := by
  induction l with
  | nil => simp [Lib.indexByte]
  | cons a r ih =>
    unfold Lib.indexByte
    by_cases h : a == c
    · rw [if_pos h]
      have : a = c := by simpa using h
      subst this; simp
    · rw [if_neg h]
      have h' : a ≠ c := by simpa using h
      have hm : (a :: r).contains c = r.contains c := by
        simp only [List.contains_cons]
        have : (c == a) = false := by rw [beq_eq_false_iff_ne]; exact fun e => h' e.symm
        rw [this, Bool.false_or]
      rw [hm, ← ih]
      by_cases h1 : Lib.indexByte r c == -1
      · rw [if_pos h1]
        have : Lib.indexByte r c = -1 := by simpa using h1
        omega
      · rw [if_neg h1]
        have h2 : Lib.indexByte r c ≠ -1 := by simpa using h1
        have h3 : -1 ≤ Lib.indexByte r c := by
          clear ih h1 h2 hm
          induction r with
          | nil => simp [Lib.indexByte]
          | cons b t ih2 =>
            unfold Lib.indexByte
            split
            · omega
            · split
              · omega
              · omega
        omega
theorem mk_ge {c : UInt8} : 0 ≤ mk c ↔ marks.contains c = true := index_contains marks c
theorem idx_byte (c : UInt8) (w : World) :
    Calls Tryz.prog 57 #[.string ⟨#[33, 35, 36, 37, 38, 39, 42, 43, 45, 46, 94, 95, 124, 126, 96]⟩, .int .u8 (c.toNat : Int)] w fun e w' => e = .returned (.int .i64 (mk c)) ∧ w = w' := by
  refine (Tryz.strings_IndexByte _ _ _).mono ?_
  rintro e w' ⟨rfl, rfl⟩
  refine ⟨?_, rfl⟩
  have : ((c.toNat : Int).toNat.toUInt8) = c := by simp
  rw [this]; rfl

theorem tokc_let {c : UInt8} (h : letc c = true) : tokc c = true := by unfold tokc; rw [h, Bool.or_true]
theorem tokc_no {c : UInt8} (h : letc c = false) : tokc c = marks.contains c := by unfold tokc; rw [h, Bool.or_false]

set_option maxHeartbeats 1000000 in
theorem tok_byte (c : UInt8) (w : World) : Calls Tryz.prog 94 #[.int .u8 (c.toNat : Int)] w fun e w' => e = .returned (.bool (tokc c)) ∧ w = w' := by
  by_cases hl : letc c = true
  · rw [tokc_let hl]
    have h3 : (97 ≤ (c.toNat : Int) ∧ (c.toNat : Int) ≤ 122) ∨ (65 ≤ (c.toNat : Int) ∧ (c.toNat : Int) ≤ 90) ∨ (48 ≤ (c.toNat : Int) ∧ (c.toNat : Int) ≤ 57) := by
      unfold letc at hl; simp at hl; omega
    clear hl
    rcases h3 with ⟨h1, h2⟩ | ⟨h1, h2⟩ | ⟨h1, h2⟩
    · go_enter Tryz.func94, Tryz.ntmps94
      go_wp2
      go_ret
      exact ⟨rfl, rfl⟩
    · have h3 : ¬ 97 ≤ (c.toNat : Int) := by omega
      go_enter Tryz.func94, Tryz.ntmps94
      go_wp2_with (go_at_call 53; refine (up_yes _ _ h1 h2).mono ?_; rintro e w' ⟨rfl, rfl⟩)
      go_ret
      exact ⟨rfl, rfl⟩
    · have h3 : ¬ 97 ≤ (c.toNat : Int) := by omega
      have h4 : (c.toNat : Int) < 65 ∨ 90 < (c.toNat : Int) := by omega
      have H4 := Lib.hid h4
      clear h4
      go_enter Tryz.func94, Tryz.ntmps94
      go_wp2_with (go_at_call 53; refine (up_no _ _ H4.out).mono ?_; rintro e w' ⟨rfl, rfl⟩)
      go_ret
      exact ⟨rfl, rfl⟩
  · have hl' : letc c = false := by simpa using hl
    rw [tokc_no hl']
    have h3 : ((c.toNat : Int) < 97 ∨ 122 < (c.toNat : Int)) ∧ ((c.toNat : Int) < 65 ∨ 90 < (c.toNat : Int)) ∧ ((c.toNat : Int) < 48 ∨ 57 < (c.toNat : Int)) := by
      unfold letc at hl'; simp at hl'; omega
    clear hl hl'
    obtain ⟨h1, h4, h5⟩ := h3
    have H4 := Lib.hid h4
    clear h4
    have hm : 0 ≤ mk c ↔ marks.contains c = true := mk_ge
    rcases hmk : marks.contains c with _ | _
    · have h6 : ¬ 0 ≤ mk c := by rw [hm, hmk]; simp
      clear hm hmk
      rcases h1 with h1 | h1 <;> rcases h5 with h5 | h5
      all_goals first | (exfalso; omega) | skip
      · have g1 : ¬ 97 ≤ (c.toNat : Int) := by omega
        have g2 : ¬ 48 ≤ (c.toNat : Int) := by omega
        clear h1 h5
        go_enter Tryz.func94, Tryz.ntmps94
        go_wp2_with (first | (go_at_call 53; refine (up_no _ _ H4.out).mono ?_; rintro e w' ⟨rfl, rfl⟩) | (go_at_call 57; refine (idx_byte c _).mono ?_; rintro e w' ⟨rfl, rfl⟩))
        go_ret
        first | exact ⟨rfl, rfl⟩ | exact ⟨ret_bool (by simp; omega), rfl⟩
      · have g1 : ¬ 97 ≤ (c.toNat : Int) := by omega
        have g2 : 48 ≤ (c.toNat : Int) := by omega
        have g3 : ¬ (c.toNat : Int) ≤ 57 := by omega
        clear h1 h5
        go_enter Tryz.func94, Tryz.ntmps94
        go_wp2_with (first | (go_at_call 53; refine (up_no _ _ H4.out).mono ?_; rintro e w' ⟨rfl, rfl⟩) | (go_at_call 57; refine (idx_byte c _).mono ?_; rintro e w' ⟨rfl, rfl⟩))
        go_ret
        first | exact ⟨rfl, rfl⟩ | exact ⟨ret_bool (by simp; omega), rfl⟩
      · have g1 : 97 ≤ (c.toNat : Int) := by omega
        have g2 : 48 ≤ (c.toNat : Int) := by omega
        have g3 : ¬ (c.toNat : Int) ≤ 57 := by omega
        have g4 : ¬ (c.toNat : Int) ≤ 122 := by omega
        clear h1 h5
        go_enter Tryz.func94, Tryz.ntmps94
        go_wp2_with (first | (go_at_call 53; refine (up_no _ _ H4.out).mono ?_; rintro e w' ⟨rfl, rfl⟩) | (go_at_call 57; refine (idx_byte c _).mono ?_; rintro e w' ⟨rfl, rfl⟩))
        go_ret
        first | exact ⟨rfl, rfl⟩ | exact ⟨ret_bool (by simp; omega), rfl⟩
    · have h6 : 0 ≤ mk c := by rw [hm]; exact hmk
      clear hm hmk
      rcases h1 with h1 | h1 <;> rcases h5 with h5 | h5
      all_goals first | (exfalso; omega) | skip
      · have g1 : ¬ 97 ≤ (c.toNat : Int) := by omega
        have g2 : ¬ 48 ≤ (c.toNat : Int) := by omega
        clear h1 h5
        go_enter Tryz.func94, Tryz.ntmps94
        go_wp2_with (first | (go_at_call 53; refine (up_no _ _ H4.out).mono ?_; rintro e w' ⟨rfl, rfl⟩) | (go_at_call 57; refine (idx_byte c _).mono ?_; rintro e w' ⟨rfl, rfl⟩))
        go_ret
        first | exact ⟨rfl, rfl⟩ | exact ⟨ret_bool (by simp; omega), rfl⟩
      · have g1 : ¬ 97 ≤ (c.toNat : Int) := by omega
        have g2 : 48 ≤ (c.toNat : Int) := by omega
        have g3 : ¬ (c.toNat : Int) ≤ 57 := by omega
        clear h1 h5
        go_enter Tryz.func94, Tryz.ntmps94
        go_wp2_with (first | (go_at_call 53; refine (up_no _ _ H4.out).mono ?_; rintro e w' ⟨rfl, rfl⟩) | (go_at_call 57; refine (idx_byte c _).mono ?_; rintro e w' ⟨rfl, rfl⟩))
        go_ret
        first | exact ⟨rfl, rfl⟩ | exact ⟨ret_bool (by simp; omega), rfl⟩
      · have g1 : 97 ≤ (c.toNat : Int) := by omega
        have g2 : 48 ≤ (c.toNat : Int) := by omega
        have g3 : ¬ (c.toNat : Int) ≤ 57 := by omega
        have g4 : ¬ (c.toNat : Int) ≤ 122 := by omega
        clear h1 h5
        go_enter Tryz.func94, Tryz.ntmps94
        go_wp2_with (first | (go_at_call 53; refine (up_no _ _ H4.out).mono ?_; rintro e w' ⟨rfl, rfl⟩) | (go_at_call 57; refine (idx_byte c _).mono ?_; rintro e w' ⟨rfl, rfl⟩))
        go_ret
        first | exact ⟨rfl, rfl⟩ | exact ⟨ret_bool (by simp; omega), rfl⟩

theorem in_byte (c : UInt8) (lo hi : Int) (w : World) :
    Calls Tryz.prog 86 #[.int .i64 (c.toNat : Int), .int .i64 lo, .int .i64 hi] w fun e w' => e = .returned (.bool (decide (lo ≤ (c.toNat : Int) ∧ (c.toNat : Int) ≤ hi))) ∧ w = w' := by
  by_cases h : lo ≤ (c.toNat : Int) ∧ (c.toNat : Int) ≤ hi
  · refine (NumDiv.in_yes _ _ _ _ h.1 h.2).mono ?_
    rintro e w' ⟨rfl, rfl⟩
    exact ⟨ret_bool (by simp [h]), rfl⟩
  · refine (NumDiv.in_no _ _ _ _ (by omega)).mono ?_
    rintro e w' ⟨rfl, rfl⟩
    exact ⟨ret_bool (by simp only [h, decide_false]), rfl⟩

set_option maxHeartbeats 1000000 in
theorem letter_byte (c : UInt8) (w : World) : Calls Tryz.prog 64 #[.int .u8 (c.toNat : Int)] w fun e w' => e = .returned (.bool (letc c)) ∧ w = w' := by
  have hub : (c.toNat : Int) ≤ 255 := by have := c.toNat_lt; omega
  have hub0 : 0 ≤ (c.toNat : Int) := by omega
  by_cases h1 : 97 ≤ (c.toNat : Int) ∧ (c.toNat : Int) ≤ 122
  · have e : letc c = true := by unfold letc; simp; omega
    rw [e]; clear e
    obtain ⟨a, b⟩ := h1
    go_enter Tryz.func64, Tryz.ntmps64
    go_wp2_with (go_at_call 86; (with_reducible refine (NumDiv.in_yes _ _ _ _ a b).mono ?_); rintro e w' ⟨rfl, rfl⟩)
    go_ret
    exact ⟨rfl, rfl⟩
  · have H1 := Lib.hid (show (c.toNat : Int) < 97 ∨ 122 < (c.toNat : Int) by omega)
    by_cases h2 : 65 ≤ (c.toNat : Int) ∧ (c.toNat : Int) ≤ 90
    · have e : letc c = true := by unfold letc; simp; omega
      rw [e]; clear e h1
      obtain ⟨a, b⟩ := h2
      go_enter Tryz.func64, Tryz.ntmps64
      go_wp2_with (fail)
      go_at_call 86
      refine (NumDiv.in_no _ _ _ _ H1.out).mono ?_
      rintro e w' ⟨rfl, rfl⟩
      go_wp2_with (fail)
      go_at_call 86
      refine (NumDiv.in_yes _ _ _ _ a b).mono ?_
      rintro e w' ⟨rfl, rfl⟩
      go_wp2
      go_ret
      exact ⟨rfl, rfl⟩
    · have H2 := Lib.hid (show (c.toNat : Int) < 65 ∨ 90 < (c.toNat : Int) by omega)
      have e : letc c = decide (48 ≤ (c.toNat : Int) ∧ (c.toNat : Int) ≤ 57) := by unfold letc; rw [Bool.eq_iff_iff]; simp; omega
      rw [e]; clear e h1 h2
      go_enter Tryz.func64, Tryz.ntmps64
      go_wp2_with (fail)
      go_at_call 86
      refine (NumDiv.in_no _ _ _ _ H1.out).mono ?_
      rintro e w' ⟨rfl, rfl⟩
      go_wp2_with (fail)
      go_at_call 86
      refine (NumDiv.in_no _ _ _ _ H2.out).mono ?_
      rintro e w' ⟨rfl, rfl⟩
      go_wp2_with (fail)
      go_at_call 86
      refine (in_byte c 48 57 _).mono ?_
      rintro e w' ⟨rfl, rfl⟩
      go_wp2
      go_ret
      exact ⟨ret_bool (by rw [Bool.decide_and]), rfl⟩

def mka (k : Nat) : UInt8 := marks.getD k 0
/-- The table of marks, read at a place. -/
theorem tab_fin : ∀ r : Fin 15, (⟨#[33, 35, 36, 37, 38, 39, 42, 43, 45, 46, 94, 95, 124, 126, 96]⟩ : ByteArray)[r.1]'(r.2) = mka r.1 := by decide
theorem tab_at (u : Nat) (h : u < (⟨#[33, 35, 36, 37, 38, 39, 42, 43, 45, 46, 94, 95, 124, 126, 96]⟩ : ByteArray).size) :
    ((⟨#[33, 35, 36, 37, 38, 39, 42, 43, 45, 46, 94, 95, 124, 126, 96]⟩ : ByteArray)[u]'h) = mka u := tab_fin ⟨u, h⟩
theorem mark_in {c : UInt8} {k : Nat} (h : k < 15) (e : mka k = c) : tokc c = true := by
  unfold tokc
  have : marks.contains c = true := by
    rw [← e]
    have hl : k < marks.length := h
    rw [show mka k = marks[k]'hl by unfold mka; simp [List.getD, hl]]
    simp
  rw [this, Bool.true_or]
theorem mark_out {c : UInt8} (h : ∀ j, j < 15 → mka j ≠ c) : tokc c = letc c := by
  unfold tokc
  have : marks.contains c = false := by
    rw [Bool.eq_false_iff]
    intro hc
    have hm : c ∈ marks := by simpa using hc
    obtain ⟨j, hj, e⟩ := List.getElem_of_mem hm
    have hl : marks.length = 15 := rfl
    exact h j (by omega) (by unfold mka; simp [List.getD, hj, e])
  rw [this, Bool.false_or]

end Go.Proofs.YtegaakgmfphcaaaGreatDoor.Tx

/-
  CONTRACT of strings.Cut at a separator of one byte: what stands before the first such byte, what stands behind it, and whether there is one; nothing that was there before is changed.
-/
namespace Go.Proofs.YtegaakgmfphcaaaGreatDoor.Tx
open Go Go.RowKit
set_option linter.unusedVariables false
set_option maxRecDepth 1000000

theorem indexByte_idx (c : UInt8) (l : List UInt8) : Lib.indexByte l c = if idx c l < l.length then (idx c l : Int) else -1 := by
  induction l with
  | nil => simp [Lib.indexByte, idx]
  | cons a r ih =>
    unfold Lib.indexByte idx
    by_cases h : a == c
    · rw [if_pos h, if_pos h, if_pos (by simp)]; rfl
    · rw [if_neg h, if_neg h, ih]
      by_cases hl : idx c r < r.length
      · have hn : ((idx c r : Int) == -1) = false := by rw [beq_eq_false_iff_ne]; omega
        rw [if_pos hl, hn, if_neg (by simp), if_pos (by simp; omega)]; omega
      · rw [if_neg hl, if_pos (by decide), if_neg (by simp; omega)]
/-- How a cut ends. -/
def CutEnd (c : UInt8) (l : List UInt8) (w : World) (e : Ending) (w' : World) : Prop :=
  e = .returned (.tuple #[.string ⟨(cutAt c l).1.toArray⟩, .string ⟨(cutAt c l).2.1.toArray⟩, .bool (cutAt c l).2.2]) ∧ Below w.heap.size w w'
theorem below_drewN' {B : Nat} {a w : World} (h : Below B a w) (n : Nat) : Below B a (w.drewN n) := ⟨h.os, h.tape, h.output, h.size, h.block⟩
theorem ext_eq (s : ByteArray) (a b : Nat) : s.extract a b = ⟨((s.data.toList.drop a).take (b - a)).toArray⟩ := by
  apply ByteArray.ext
  rw [ByteArray.data_extract]
  apply Array.ext'
  simp
theorem cut_hit {s : ByteArray} {c : UInt8} {w w' : World} {i : Nat} (hi : i = idx c s.data.toList) (h : i < s.size) (hb : Below w.heap.size w w') :
    CutEnd c s.data.toList w (.returned (.tuple #[.string (s.extract 0 i), .string (s.extract (i + 1) s.size), .bool true])) w' := by
  have hl : s.data.toList.length = s.size := by rw [Array.length_toList]; rfl
  have e : cutAt c s.data.toList = (s.data.toList.take i, s.data.toList.drop (i + 1), true) := by
    unfold cutAt; rw [← hi, hl, if_pos h]
  unfold CutEnd
  rw [e, ext_eq, ext_eq]
  refine ⟨?_, hb⟩
  have h2 : (s.data.toList.drop (i + 1)).take (s.size - (i + 1)) = s.data.toList.drop (i + 1) := List.take_of_length_le (by rw [List.length_drop, hl]; omega)
  rw [h2, List.drop_zero, Nat.sub_zero]
theorem cut_miss {s : ByteArray} {c : UInt8} {w w' : World} (h : ¬ idx c s.data.toList < s.size) (hb : Below w.heap.size w w') :
    CutEnd c s.data.toList w (.returned (.tuple #[.string s, .string ⟨#[]⟩, .bool false])) w' := by
  have hl : s.data.toList.length = s.size := by rw [Array.length_toList]; rfl
  have e : cutAt c s.data.toList = (s.data.toList, [], false) := by
    unfold cutAt; rw [hl, if_neg h]
  unfold CutEnd
  rw [e]
  exact ⟨by simp, hb⟩

set_option maxHeartbeats 1000000 in
theorem lite_cut (s : ByteArray) (c : UInt8) (w : World) (hs : s.size ≤ 9223372036854775806) :
    Calls Tryz.prog 66 #[.string s, .string ⟨#[c]⟩] w (CutEnd c s.data.toList w) := by
  have hl : s.data.toList.length = s.size := by rw [Array.length_toList]; rfl
  have c1 := Tryz.stringslite_Index_one s c w
  rw [indexByte_idx, hl] at c1
  by_cases h : idx c s.data.toList < s.size
  · rw [if_pos h] at c1
    obtain ⟨i, hi⟩ : ∃ i, i = idx c s.data.toList := ⟨_, rfl⟩
    rw [← hi] at c1 h
    have HI := Lib.hid hi
    clear hi hl
    go_enter Tryz.func66, Tryz.ntmps66
    go_wp2_with (go_at_call 87; refine c1.mono ?_; rintro e w' ⟨rfl, rfl⟩)
    go_quiet (fail)
    go_wp2
    go_ret3
    exact cut_hit HI.out h (below_drewN' (Below.refl _ _) _)
  · rw [if_neg h] at c1
    have H := Lib.hid h
    clear h hl
    go_enter Tryz.func66, Tryz.ntmps66
    go_wp2_with (go_at_call 87; refine c1.mono ?_; rintro e w' ⟨rfl, rfl⟩)
    go_ret3
    exact cut_miss H.out (Below.refl _ _)

theorem cut_any (s : ByteArray) (c : UInt8) (w : World) (hs : s.size ≤ 9223372036854775806) :
    Calls Tryz.prog 45 #[.string s, .string ⟨#[c]⟩] w (CutEnd c s.data.toList w) := by
  have c1 := lite_cut s c w hs
  go_enter Tryz.func45, Tryz.ntmps45
  go_wp2_with (go_at_call 66; refine c1.mono ?_; rintro e w' ⟨rfl, hb⟩)
  go_ret3
  exact ⟨rfl, hb⟩
end Go.Proofs.YtegaakgmfphcaaaGreatDoor.Tx

/-
  CONTRACTS of the program's isPlainByte, normalCode and normalCodes; nothing that was there before is changed.
-/
namespace Go.Proofs.YtegaakgmfphcaaaGreatDoor.Nt
open Go Go.RowKit Bys
set_option linter.unusedVariables false
set_option maxRecDepth 1000000
set_option maxRecDepth 1000000

def pm : List UInt8 := [45, 46, 95, 126]
def pmk (c : UInt8) : Int := Lib.indexByte pm c
theorem pmk_ge {c : UInt8} : 0 ≤ pmk c ↔ pm.contains c = true := Tx.index_contains pm c
theorem plainb_let {c : UInt8} (h : Tx.letc c = true) : plainb c = true := by unfold plainb; rw [h, Bool.true_or]
theorem plainb_no {c : UInt8} (h : Tx.letc c = false) : plainb c = pm.contains c := by
  unfold plainb pm; rw [h, Bool.false_or]
  simp only [List.contains_cons, List.contains_nil, Bool.or_false]
  cases (c == 45) <;> cases (c == 46) <;> cases (c == 95) <;> rfl
theorem pidx_byte (c : UInt8) (w : World) :
    Calls Tryz.prog 57 #[.string ⟨#[45, 46, 95, 126]⟩, .int .u8 (c.toNat : Int)] w fun e w' => e = .returned (.int .i64 (pmk c)) ∧ w = w' := by
  refine (Tryz.strings_IndexByte _ _ _).mono ?_
  rintro e w' ⟨rfl, rfl⟩
  refine ⟨?_, rfl⟩
  have : ((c.toNat : Int).toNat.toUInt8) = c := by simp
  rw [this]; rfl

set_option maxHeartbeats 1000000 in
theorem plain_byte (c : UInt8) (w : World) : Calls Tryz.prog 81 #[.int .u8 (c.toNat : Int)] w fun e w' => e = .returned (.bool (plainb c)) ∧ w = w' := by
  by_cases hl : Tx.letc c = true
  · rw [plainb_let hl]
    have h3 : (97 ≤ (c.toNat : Int) ∧ (c.toNat : Int) ≤ 122) ∨ (65 ≤ (c.toNat : Int) ∧ (c.toNat : Int) ≤ 90) ∨ (48 ≤ (c.toNat : Int) ∧ (c.toNat : Int) ≤ 57) := by
      unfold Tx.letc at hl; simp at hl; omega
    clear hl
    rcases h3 with ⟨h1, h2⟩ | ⟨h1, h2⟩ | ⟨h1, h2⟩
    · go_enter Tryz.func81, Tryz.ntmps81
      go_wp2
      go_ret
      exact ⟨rfl, rfl⟩
    · have h3 : ¬ 97 ≤ (c.toNat : Int) := by omega
      go_enter Tryz.func81, Tryz.ntmps81
      go_wp2_with (go_at_call 53; refine (Tx.up_yes _ _ h1 h2).mono ?_; rintro e w' ⟨rfl, rfl⟩)
      go_ret
      exact ⟨rfl, rfl⟩
    · have h3 : ¬ 97 ≤ (c.toNat : Int) := by omega
      have h4 : (c.toNat : Int) < 65 ∨ 90 < (c.toNat : Int) := by omega
      have H4 := Lib.hid h4
      clear h4
      go_enter Tryz.func81, Tryz.ntmps81
      go_wp2_with (go_at_call 53; refine (Tx.up_no _ _ H4.out).mono ?_; rintro e w' ⟨rfl, rfl⟩)
      go_ret
      exact ⟨rfl, rfl⟩
  · have hl' : Tx.letc c = false := by simpa using hl
    rw [plainb_no hl']
    have h3 : ((c.toNat : Int) < 97 ∨ 122 < (c.toNat : Int)) ∧ ((c.toNat : Int) < 65 ∨ 90 < (c.toNat : Int)) ∧ ((c.toNat : Int) < 48 ∨ 57 < (c.toNat : Int)) := by
      unfold Tx.letc at hl'; simp at hl'; omega
    clear hl hl'
    obtain ⟨h1, h4, h5⟩ := h3
    have H4 := Lib.hid h4
    clear h4
    have hm : 0 ≤ pmk c ↔ pm.contains c = true := pmk_ge
    rcases hmk : pm.contains c with _ | _
    · have h6 : ¬ 0 ≤ pmk c := by rw [hm, hmk]; simp
      clear hm hmk
      rcases h1 with h1 | h1 <;> rcases h5 with h5 | h5
      all_goals first | (exfalso; omega) | skip
      · have g1 : ¬ 97 ≤ (c.toNat : Int) := by omega
        have g2 : ¬ 48 ≤ (c.toNat : Int) := by omega
        clear h1 h5
        go_enter Tryz.func81, Tryz.ntmps81
        go_wp2_with (first | (go_at_call 53; refine (Tx.up_no _ _ H4.out).mono ?_; rintro e w' ⟨rfl, rfl⟩) | (go_at_call 57; refine (pidx_byte c _).mono ?_; rintro e w' ⟨rfl, rfl⟩))
        go_ret
        first | exact ⟨rfl, rfl⟩ | exact ⟨Tx.ret_bool (by simp; omega), rfl⟩
      · have g1 : ¬ 97 ≤ (c.toNat : Int) := by omega
        have g2 : 48 ≤ (c.toNat : Int) := by omega
        have g3 : ¬ (c.toNat : Int) ≤ 57 := by omega
        clear h1 h5
        go_enter Tryz.func81, Tryz.ntmps81
        go_wp2_with (first | (go_at_call 53; refine (Tx.up_no _ _ H4.out).mono ?_; rintro e w' ⟨rfl, rfl⟩) | (go_at_call 57; refine (pidx_byte c _).mono ?_; rintro e w' ⟨rfl, rfl⟩))
        go_ret
        first | exact ⟨rfl, rfl⟩ | exact ⟨Tx.ret_bool (by simp; omega), rfl⟩
      · have g1 : 97 ≤ (c.toNat : Int) := by omega
        have g2 : 48 ≤ (c.toNat : Int) := by omega
        have g3 : ¬ (c.toNat : Int) ≤ 57 := by omega
        have g4 : ¬ (c.toNat : Int) ≤ 122 := by omega
        clear h1 h5
        go_enter Tryz.func81, Tryz.ntmps81
        go_wp2_with (first | (go_at_call 53; refine (Tx.up_no _ _ H4.out).mono ?_; rintro e w' ⟨rfl, rfl⟩) | (go_at_call 57; refine (pidx_byte c _).mono ?_; rintro e w' ⟨rfl, rfl⟩))
        go_ret
        first | exact ⟨rfl, rfl⟩ | exact ⟨Tx.ret_bool (by simp; omega), rfl⟩
    · have h6 : 0 ≤ pmk c := by rw [hm]; exact hmk
      clear hm hmk
      rcases h1 with h1 | h1 <;> rcases h5 with h5 | h5
      all_goals first | (exfalso; omega) | skip
      · have g1 : ¬ 97 ≤ (c.toNat : Int) := by omega
        have g2 : ¬ 48 ≤ (c.toNat : Int) := by omega
        clear h1 h5
        go_enter Tryz.func81, Tryz.ntmps81
        go_wp2_with (first | (go_at_call 53; refine (Tx.up_no _ _ H4.out).mono ?_; rintro e w' ⟨rfl, rfl⟩) | (go_at_call 57; refine (pidx_byte c _).mono ?_; rintro e w' ⟨rfl, rfl⟩))
        go_ret
        first | exact ⟨rfl, rfl⟩ | exact ⟨Tx.ret_bool (by simp; omega), rfl⟩
      · have g1 : ¬ 97 ≤ (c.toNat : Int) := by omega
        have g2 : 48 ≤ (c.toNat : Int) := by omega
        have g3 : ¬ (c.toNat : Int) ≤ 57 := by omega
        clear h1 h5
        go_enter Tryz.func81, Tryz.ntmps81
        go_wp2_with (first | (go_at_call 53; refine (Tx.up_no _ _ H4.out).mono ?_; rintro e w' ⟨rfl, rfl⟩) | (go_at_call 57; refine (pidx_byte c _).mono ?_; rintro e w' ⟨rfl, rfl⟩))
        go_ret
        first | exact ⟨rfl, rfl⟩ | exact ⟨Tx.ret_bool (by simp; omega), rfl⟩
      · have g1 : 97 ≤ (c.toNat : Int) := by omega
        have g2 : 48 ≤ (c.toNat : Int) := by omega
        have g3 : ¬ (c.toNat : Int) ≤ 57 := by omega
        have g4 : ¬ (c.toNat : Int) ≤ 122 := by omega
        clear h1 h5
        go_enter Tryz.func81, Tryz.ntmps81
        go_wp2_with (first | (go_at_call 53; refine (Tx.up_no _ _ H4.out).mono ?_; rintro e w' ⟨rfl, rfl⟩) | (go_at_call 57; refine (pidx_byte c _).mono ?_; rintro e w' ⟨rfl, rfl⟩))
        go_ret
        first | exact ⟨rfl, rfl⟩ | exact ⟨Tx.ret_bool (by simp; omega), rfl⟩

/-- What a percent sign in front of l is written as. -/
def codep (a b : UInt8) : List UInt8 × Bool := if hexn a < 16 ∧ hexn b < 16 then (code (hexn a) (hexn b), true) else ([], false)
theorem up_fin : ∀ r : Fin 256, hexn (UInt8.ofNat r.1) < 16 → Lib.toUpperA [UInt8.ofNat r.1] = [dig (hexn (UInt8.ofNat r.1))] ∧ r.1 < 128 := by decide +kernel
theorem up_one {c : UInt8} (h : hexn c < 16) : Lib.toUpperA [c] = [dig (hexn c)] ∧ c.toNat < 128 := by
  have := up_fin ⟨c.toNat, c.toNat_lt⟩
  simp only [UInt8.ofNat_toNat] at this
  exact this h
theorem up_three {a b : UInt8} (h1 : hexn a < 16) (h2 : hexn b < 16) : Lib.toUpperA [37, a, b] = [37, dig (hexn a), dig (hexn b)] := by
  have e1 := (up_one h1).1
  have e2 := (up_one h2).1
  have e0 : Lib.toUpperA [37] = [37] := by decide
  unfold Lib.toUpperA at *
  simp only [List.map_cons, List.map_nil, List.cons.injEq, and_true] at *
  exact ⟨e0, e1, e2⟩

theorem code_short (s : ByteArray) (w : World) (hs : s.size < 3) : Calls Tryz.prog 58 #[.string s] w (PairEnd ([], false) w) := by
  have HB := Lib.hid (Below.refl w.heap.size w)
  have h3 : (s.size : Int) < 3 := by omega
  clear hs
  unfold PairEnd
  go_enter Tryz.func58, Tryz.ntmps58
  go_wp2
  go_ret2
  exact ⟨rfl, HB.out⟩

set_option maxHeartbeats 4000000 in
theorem code_call (a b : UInt8) (s : ByteArray) (w : World) (hs : 3 ≤ s.size) (he1 : s.extract 1 3 = ⟨#[a, b]⟩) (he2 : s.extract 0 3 = ⟨#[37, a, b]⟩) (he : Par.Errs w) :
    Calls Tryz.prog 58 #[.string s] w (PairEnd (codep a b) w) := by
  have HP := Lib.hid (pu_call a b w he)
  have h3 : 3 ≤ (s.size : Int) := by omega
  unfold PuOut at HP
  unfold PairEnd
  clear hs he
  by_cases hx : hexn a < 16 ∧ hexn b < 16
  case neg =>
    have hc : codep a b = ([], false) := if_neg hx
    rw [hc]
    simp only [if_neg hx] at HP
    clear hx hc
    go_enter Tryz.func58, Tryz.ntmps58
    go_wp2_with (fail)
    go_at_call 80
    refine HP.out.mono ?_
    rintro e w1 ⟨⟨t, v, rfl⟩, hb1⟩
    have HB := Lib.hid hb1
    clear hb1
    go_wp2
    go_ret2
    exact ⟨rfl, HB.out⟩
  have hc : codep a b = (code (hexn a) (hexn b), true) := if_pos hx
  rw [hc]
  simp only [if_pos hx] at HP
  obtain ⟨hx1, hx2⟩ := hx
  have HUP := Lib.hid (up_three hx1 hx2)
  have HA1 := Lib.hid (up_one hx1).2
  have HA2 := Lib.hid (up_one hx2).2
  generalize hexn a = x at *
  generalize hexn b = y at *
  have hbn : ((bt x y).toNat : Int) = ((16 * x + y : Nat) : Int) := by rw [bt_nat hx1 hx2]
  have HPB := Lib.hid (fun W => plain_byte (bt x y) W)
  have HCV : Hid (∀ W : World, (convert 22 9 (.slice (some ⟨W.heap.size, 0, none⟩) 1 1)).run Tryz.prog (W.alloc (.cells #[.int .u8 ((16 * x + y : Nat) : Int)] 5)) = .ok (.string ⟨#[bt x y]⟩) (W.alloc (.cells #[.int .u8 ((16 * x + y : Nat) : Int)] 5))) := Lib.hid (fun W => by
    have h := own_str (own_lit_one W (bt x y))
    unfold bvl at h
    rw [hbn] at h
    exact h)
  rw [hbn] at HPB
  have HY : Hid (plainb (bt x y) = true → code x y = [bt x y]) := Lib.hid code_yes
  have HN : Hid (plainb (bt x y) = false → code x y = [37, dig x, dig y]) := Lib.hid code_no
  have n1 : ((16 * x + y : Nat) : Int) ≤ 255 := by omega
  have n0 : 0 ≤ ((16 * x + y : Nat) : Int) := by omega
  generalize ((16 * x + y : Nat) : Int) = n at *
  generalize code x y = z at HY HN ⊢
  generalize bt x y = c at *
  clear hbn hx1 hx2 hc
  cases hp : plainb c with
  | true =>
    have HZ := Lib.hid (HY.out hp)
    rw [hp] at HPB
    clear HY HN hp HA1 HA2 HUP
    go_enter Tryz.func58, Tryz.ntmps58
    go_wp2_with (fail)
    go_at_call 80
    refine HP.out.mono ?_
    rintro e w1 ⟨rfl, hb1⟩
    have HB := Lib.hid hb1
    have hcv := HCV.out w1
    clear hb1
    go_wp2_with (fail)
    go_at_call 81
    refine (HPB.out _).mono ?_
    rintro e w' ⟨rfl, rfl⟩
    go_wp2
    go_ret2
    exact ⟨by rw [HZ.out] <;> rfl, HB.out.alloc HB.out.size _⟩
  | false =>
    have HZ := Lib.hid (HN.out hp)
    rw [hp] at HPB
    clear HY HN hp HCV
    go_enter Tryz.func58, Tryz.ntmps58
    go_wp2_with (fail)
    go_at_call 80
    refine HP.out.mono ?_
    rintro e w1 ⟨rfl, hb1⟩
    have HB := Lib.hid hb1
    have HU := Lib.hid (Tryz.strings_ToUpper_ascii ⟨#[37, a, b]⟩ w1 (by show 3 ≤ _; decide) (fun j u h => by
      match j, h with
      | 0, h => simp at h; subst h; decide
      | 1, h => simp at h; subst h; exact HA1.out
      | 2, h => simp at h; subst h; exact HA2.out))
    rw [show (⟨#[37, a, b]⟩ : ByteArray).data.toList = [37, a, b] from rfl, HUP.out] at HU
    clear hb1 HA1 HA2 HUP
    go_wp2_with (fail)
    go_at_call 81
    refine (HPB.out _).mono ?_
    rintro e w' ⟨rfl, rfl⟩
    go_wp2_with (fail)
    go_at_call 82
    refine HU.out.mono ?_
    rintro e w2 ⟨rfl, hb2⟩
    have HB2 := Lib.hid (Base.then_below HB.out hb2)
    clear hb2
    go_wp2
    go_ret2
    exact ⟨by rw [HZ.out] <;> rfl, HB2.out⟩
end Go.Proofs.YtegaakgmfphcaaaGreatDoor.Nt
