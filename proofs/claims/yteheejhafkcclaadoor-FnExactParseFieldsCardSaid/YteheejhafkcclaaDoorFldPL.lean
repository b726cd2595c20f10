/-
  CONTRACT of the model's l5Line: the line that begins at a place, and the place behind its end; nothing that was there before is changed.
-/
import Derived.Test.YteheejhafkcclaaDoorFldPM
import Derived.Laws.DeepStrings4
import Derived.LoopTactic
import Derived.Outline
namespace Go.Proofs.YteheejhafkcclaaDoor.Flds
open Go Go.RowKit
set_option linter.unusedVariables false

abbrev occ2 (l : List UInt8) (j : Nat) : Bool := Lib.occAt l [13, 10] j
theorem occ_two {s : ByteArray} {k : Nat} (h : k + 1 < s.size) : occ2 s.data.toList k = (s[k] == 13 && s[k + 1] == 10) := by
  have hl : s.data.toList.length = s.size := by rw [Array.length_toList]; rfl
  unfold occ2 Lib.occAt
  rw [List.drop_eq_getElem_cons (by rw [hl]; omega), List.drop_eq_getElem_cons (i := k + 1) (by rw [hl]; omega)]
  simp only [List.isPrefixOf, Bool.and_true]
  rw [Bool.eq_iff_iff]
  simp only [Bool.and_eq_true, beq_iff_eq]
  constructor
  · rintro ⟨a, b⟩; exact ⟨a.symm, b.symm⟩
  · rintro ⟨a, b⟩; exact ⟨a.symm, b.symm⟩
theorem occ_drop (l : List UInt8) (p j : Nat) : occ2 (l.drop p) j = occ2 l (p + j) := by unfold occ2 Lib.occAt; rw [List.drop_drop]
theorem ln_hit {l : List UInt8} {p k : Nat} (hp : p ≤ k) (hk : k + 1 < l.length) (h : occ2 l k = true) (hn : ∀ j, p ≤ j → j < k → occ2 l j = false) : ln (l.drop p) = ((l.drop p).take (k - p), l.drop (k + 2), true) := by
  have e : Lib.index (l.drop p) [13, 10] = ((k - p : Nat) : Int) := Lib.index_first (by rw [List.length_drop]; omega) (by show occ2 (l.drop p) (k - p) = true; rw [occ_drop, show p + (k - p) = k by omega]; exact h) (fun j hj => by show occ2 (l.drop p) j = false; rw [occ_drop]; exact hn _ (by omega) (by omega))
  unfold ln Lib.cut
  rw [e, if_pos (by omega)]
  simp only [Int.toNat_natCast, List.length_cons, List.length_nil, List.drop_drop]
  rw [show p + (k - p + (0 + 1 + 1)) = k + 2 by omega]
theorem ln_miss {l : List UInt8} {p : Nat} (hn : ∀ j, p ≤ j → j + 1 < l.length → occ2 l j = false) : ln (l.drop p) = (l.drop p, [], false) := by
  have e : Lib.index (l.drop p) [13, 10] = -1 := Lib.index_none (fun j hj => by
    show occ2 (l.drop p) j = false
    rw [List.length_drop] at hj
    rw [occ_drop]
    by_cases h : p + j + 1 < l.length
    · exact hn _ (by omega) h
    · cases ho : occ2 l (p + j) with
      | false => rfl
      | true => rcases Lib.occAt_room ho with h1 | h1
                · simp at h1; omega
                · cases h1)
  unfold ln Lib.cut
  rw [e, if_neg (by omega)]
def LineEnd (l : List UInt8) (p : Nat) (w : World) (e : Ending) (w' : World) : Prop :=
  e = .returned (if (ln (l.drop p)).2.2 = true then .tuple #[.string ⟨(ln (l.drop p)).1.toArray⟩, .int .i64 ((p + (ln (l.drop p)).1.length + 2 : Nat) : Int)] else .tuple #[.string ⟨#[]⟩, .int .i64 (-1)]) ∧ Below w.heap.size w w'
theorem line_hit {s : ByteArray} {p k : Nat} {w w' : World} (hp : p ≤ k) (hk : k + 1 < s.size) (h : occ2 s.data.toList k = true) (hn : ∀ j, p ≤ j → j < k → occ2 s.data.toList j = false) (hb : Below w.heap.size w w') :
    LineEnd s.data.toList p w (.returned (.tuple #[.string (s.extract p k), .int .i64 ((k : Int) + 2)])) w' := by
  have hl : s.data.toList.length = s.size := by rw [Array.length_toList]; rfl
  unfold LineEnd
  rw [ln_hit hp (by rw [hl]; exact hk) h hn, Tx.ext_eq]
  refine ⟨?_, hb⟩
  simp only [if_true]
  rw [show ((p + (List.take (k - p) (List.drop p s.data.toList)).length + 2 : Nat) : Int) = (k : Int) + 2 by rw [List.length_take, List.length_drop, hl]; omega]
theorem line_miss {s : ByteArray} {p : Nat} {w w' : World} (hn : ∀ j, p ≤ j → j + 1 < s.size → occ2 s.data.toList j = false) (hb : Below w.heap.size w w') :
    LineEnd s.data.toList p w (.returned (.tuple #[.string ⟨#[]⟩, .int .i64 (-1)])) w' := by
  have hl : s.data.toList.length = s.size := by rw [Array.length_toList]; rfl
  unfold LineEnd
  rw [ln_miss (by rw [hl]; exact hn)]
  exact ⟨by simp, hb⟩

set_option maxHeartbeats 2000000 in
theorem spec_line_s (s : ByteArray) (p : Nat) (w : World) (hp : p ≤ s.size) (hs : s.size ≤ 1048576) :
    Calls Tryd.prog 9 #[.string s, .int .i64 (p : Int)] w (LineEnd s.data.toList p w) := by
  go_enter Tryd.func9, Tryd.ntmps9
  go_wp2
  go_loop [6] (fun i => ∃ k : Nat, p ≤ k ∧ k ≤ s.size ∧ i = .int .i64 k ∧ ∀ j, p ≤ j → j < k → occ2 s.data.toList j = false) (fun i => s.size - (intOf i).toNat)
  case atStart => exact ⟨p, Nat.le_refl _, hp, rfl, fun j h1 h2 => absurd h1 (by omega)⟩
  case round =>
    obtain ⟨k, hpk, hk, rfl, hno⟩ := hrel
    have HN := Lib.hid hno
    clear hno
    by_cases hlt : k + 1 < s.size
    · have hlt' : (k : Int) + 1 < (s.size : Int) := by omega
      have HO := Lib.hid (occ_two hlt)
      have hk0 : (0 : Int) ≤ (k : Int) := by omega
      rcases hc : ((s[k].toNat : Int) == 13) with _ | _
      · have HC : Hid (occ2 s.data.toList k = false) := Lib.hid (by
          rw [HO.out]
          have : (s[k] == 13) = false := by
            rw [beq_eq_false_iff_ne]; intro h; rw [h] at hc; revert hc; decide
          rw [this]; rfl)
        go_wp2
        go_round
        case rel => exact ⟨k + 1, by omega, by omega, by go_num, fun j h1 h2 => by
          rcases Nat.lt_or_ge j k with h' | h'
          · exact HN.out j h1 h'
          · have : j = k := by omega
            subst this; exact HC.out⟩
        case measure => simp [intOf]; omega
      · have H13 : Hid (s[k] = 13) := Lib.hid (UInt8.toNat_inj.1 (by have := beq_iff_eq.1 hc; simp; omega))
        rcases hd : ((s[k + 1].toNat : Int) == 10) with _ | _
        · have HC : Hid (occ2 s.data.toList k = false) := Lib.hid (by
            rw [HO.out]
            have : (s[k + 1] == 10) = false := by
              rw [beq_eq_false_iff_ne]; intro h; rw [h] at hd; revert hd; decide
            rw [this]; simp)
          go_wp2
          go_round
          case rel => exact ⟨k + 1, by omega, by omega, by go_num, fun j h1 h2 => by
            rcases Nat.lt_or_ge j k with h' | h'
            · exact HN.out j h1 h'
            · have : j = k := by omega
              subst this; exact HC.out⟩
          case measure => simp [intOf]; omega
        · have H10 : Hid (s[k + 1] = 10) := Lib.hid (UInt8.toNat_inj.1 (by have := beq_iff_eq.1 hd; simp; omega))
          have HC : Hid (occ2 s.data.toList k = true) := Lib.hid (by rw [HO.out, H13.out, H10.out]; rfl)
          have hpk' : (p : Int) ≤ (k : Int) := by omega
          go_wp2
          go_ret2
          exact line_hit hpk hlt HC.out HN.out (Below.refl _ _)
    · have hge : ¬ (k : Int) + 1 < (s.size : Int) := by omega
      go_wp2
      go_ret2
      exact line_miss (fun j h1 h2 => HN.out j h1 (by omega)) (Below.refl _ _)
theorem spec_line (l : List UInt8) (p : Nat) (w : World) (hp : p ≤ l.length) (hl : l.length ≤ 1048576) : Calls Tryd.prog 9 #[.string ⟨l.toArray⟩, .int .i64 (p : Int)] w (LineEnd l p w) := spec_line_s ⟨l.toArray⟩ p w (by simpa [ByteArray.size] using hp) (by simpa [ByteArray.size] using hl)
end Go.Proofs.YteheejhafkcclaaDoor.Flds
