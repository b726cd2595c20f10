/-
  CONTRACT of the model's IsPolicy; nothing that was there before is changed.
-/
import Derived.Test.YtfgpphbfampjjaaPol
namespace Go.Proofs.Ytfgpphbfampjjaa.Rul
open Go Go.RowKit
set_option linter.unusedVariables false

theorem head_at (s : ByteArray) (h : 0 < s.size) : (s.data.toList.head? == some 47) = ((s[0].toNat : Int) == 47) := by
  have e : s.data.toList.head? = some s[0] := by
    rw [List.head?_eq_getElem?]
    have h' : 0 < s.data.toList.length := by rw [Array.length_toList]; exact h
    rw [List.getElem?_eq_getElem h']
    simp [ByteArray.getElem_eq_getElem_data]
  rw [e]
  have := Tx.eq_nat (c := s[0]) (n := 47) (by omega)
  rw [show ((s[0].toNat : Int) == 47) = (s[0] == 47) from this]
  rfl
theorem rok_bytes {a n : Int} {p : List UInt8} (h : p.all Msg.tb = false) : rok (a, p, n) = false := by
  unfold rok pfx Msg.targOk; simp only; rw [h]; simp
theorem rok_eq {a n : Int} {s : ByteArray} (h : s.data.toList.all Msg.tb = true) : rok (a, s.data.toList, n) = ((decide (1 ≤ s.size ∧ s.size ≤ 60) && (s.data.toList.head? == some 47)) && (decide (1 ≤ a ∧ a ≤ 3) && (decide (0 ≤ n ∧ n ≤ 2147483648) && (decide (a = 2) || decide (n = 0))))) := by
  have hp : pfx s.data.toList = (decide (1 ≤ s.size ∧ s.size ≤ 60) && (s.data.toList.head? == some 47)) := by
    unfold pfx Msg.targOk
    rw [h, Tx.list_len, Bool.true_and, ← Bool.and_assoc]
    congr 1
    rw [← Bool.decide_and]; apply decide_eq_decide.2; omega
  unfold rok
  simp only
  rw [hp]
  generalize (decide (1 ≤ s.size ∧ s.size ≤ 60) && (s.data.toList.head? == some 47)) = q
  cases q
  · simp
  · by_cases h1 : a = 1
    · subst h1; by_cases h5 : n = 0
      · subst h5; simp
      · simp [h5]
    · by_cases h2 : a = 2
      · subst h2; simp
      · by_cases h3 : a = 3
        · subst h3; by_cases h5 : n = 0
          · subst h5; simp
          · simp [h5]
        · rw [decide_eq_false h1, decide_eq_false h2, decide_eq_false h3, decide_eq_false (show ¬ (1 ≤ a ∧ a ≤ 3) by omega)]; simp

set_option maxHeartbeats 8000000 in
theorem spec_pol (v : Value) (B : Nat) (l : List T) (w : World) (h : Holds w B v l) (hB : B ≤ w.heap.size) (hl : total l ≤ 1048576) :
    Calls Try.prog 41 #[v] w (BoolEnd (polOk l) w) := by
  have hll : l.length ≤ 1048576 := Nat.le_trans (len_le_total l) hl
  have HT := Lib.hid hl
  obtain ⟨a, cap, rfl, ha⟩ := shape_r h
  have HA := Lib.hid ha
  clear ha h hl
  go_enter Try.func41, Try.ntmps41
  go_wp2
  go_loop [3] (fun i => ∃ k : Nat, k ≤ l.length ∧ i = .int .i64 (k : Int) ∧ Hid ((l.take k).all rok = true)) (fun i => l.length - (intOf i).toNat)
  case atStart => exact ⟨0, Nat.zero_le _, rfl, Lib.hid (by simp)⟩
  case round =>
    obtain ⟨k, hk, rfl, HP⟩ := hrel
    by_cases hlt : k < l.length
    · obtain ⟨b, off, rfl, hbw, hcap, hc⟩ := HA.out (by omega)
      obtain ⟨c0, c1, c2⟩ := at_cells hc hlt
      have HLE : Hid ((l.getD k nov).2.1.length ≤ 1048576) := Lib.hid (Nat.le_trans (mem_total (Rec.getD_mem hlt)) HT.out)
      have HM := Lib.hid (all_more hlt HP.out)
      have HN := Lib.hid (pol_bad hlt)
      clear hc
      generalize l.getD k nov = f at c0 c1 c2 HLE HM HN
      obtain ⟨x, y, t⟩ := f
      simp only at c0 c1 c2 HLE
      obtain ⟨s, rfl⟩ : ∃ s : ByteArray, y = s.data.toList := ⟨⟨y.toArray⟩, by simp⟩
      rw [show (⟨s.data.toList.toArray⟩ : ByteArray) = s by simp] at c1
      have hsz : s.size ≤ 1048576 := by have := HLE.out; rw [Tx.list_len] at this; exact this
      have HB1 := Lib.hid (fun h => HN.out (rok_bytes (a := x) (n := t) h))
      have HEQ := Lib.hid (fun h => rok_eq (a := x) (n := t) (s := s) h)
      have HHD := Lib.hid (head_at s)
      have hki : (k : Int) < (l.length : Int) := by omega
      go_wp2
      go_loop [5] (fun i => ∃ j : Nat, j ≤ s.size ∧ i = .int .i64 (j : Int) ∧ Hid ((s.data.toList.take j).all Msg.tb = true)) (fun i => s.size - (intOf i).toNat)
      case atStart => exact ⟨0, Nat.zero_le _, rfl, Lib.hid (by simp)⟩
      case round =>
        obtain ⟨j, hj, rfl, HJ⟩ := hrel
        by_cases hjl : j < s.size
        · have hb255 : (s[j].toNat : Int) ≤ 255 := by have := s[j].toNat_lt; omega
          rcases hcc : Msg.tb s[j] with _ | _
          · have HE := Lib.hid (HB1.out (Msg.all_bad hjl hcc))
            have HX := Lib.hid (Msg.tb_no hcc)
            clear hcc
            go_wp2_with (fail)
            go_at_call 45
            refine (NumDiv.in_no _ _ _ _ HX.out).mono ?_
            rintro e w' ⟨rfl, rfl⟩
            go_wp2
            go_ret
            exact ⟨ret_b HE.out.symm, Below.refl _ _⟩
          · have HJ2 := Lib.hid (Msg.all_more hjl HJ.out hcc)
            have HX := Lib.hid (Msg.tb_yes hcc)
            clear hcc
            go_wp2_with (fail)
            go_at_call 45
            refine (NumDiv.in_yes _ _ _ _ HX.out.1 HX.out.2).mono ?_
            rintro e w' ⟨rfl, rfl⟩
            go_wp2
            go_round
            case rel => exact ⟨j + 1, by omega, by go_num, HJ2⟩
            case measure => simp [intOf]; omega
        · have HAL := Lib.hid (Msg.all_end (show j = s.size by omega) HJ.out)
          have HQ := Lib.hid (HEQ.out HAL.out)
          generalize hrk : rok (x, s.data.toList, t) = z at HM HN HQ
          clear hrk HEQ HB1 HAL
          by_cases h1 : 1 ≤ (s.size : Int) ∧ (s.size : Int) ≤ 60
          case neg =>
            have HZ : Hid (polOk l = false) := Lib.hid (HN.out (by rw [HQ.out, decide_eq_false (show ¬ (1 ≤ s.size ∧ s.size ≤ 60) by omega)]; simp))
            have HX : Hid ((s.size : Int) < 1 ∨ 60 < (s.size : Int)) := Lib.hid (by omega)
            clear h1
            go_wp2_with (fail)
            go_at_call 45
            refine (NumDiv.in_no _ _ _ _ HX.out).mono ?_
            rintro e w' ⟨rfl, rfl⟩
            go_wp2
            go_ret
            exact ⟨ret_b HZ.out.symm, Below.refl _ _⟩
          have HX1 := Lib.hid h1
          have h0s : 0 < s.size := by omega
          have h0b : (0 : Int) < (s.size : Int) := by omega
          have HH0 := Lib.hid (HHD.out h0s)
          have HQ1 : Hid (z = ((s.data.toList.head? == some 47) && (decide (1 ≤ x ∧ x ≤ 3) && (decide (0 ≤ t ∧ t ≤ 2147483648) && (decide (x = 2) || decide (t = 0)))))) := Lib.hid (by rw [HQ.out, decide_eq_true (show 1 ≤ s.size ∧ s.size ≤ 60 by omega), Bool.true_and])
          clear HQ HHD
          cases h7 : ((s[0].toNat : Int) == 47) with
          | false =>
            have q7 : ((s[0].toNat : Int) != 47) = true := by simpa using h7
            have HZ : Hid (polOk l = false) := Lib.hid (HN.out (by rw [HQ1.out, HH0.out, h7]; rfl))
            clear h1
            go_wp2_with (fail)
            go_at_call 45
            refine (NumDiv.in_yes _ _ _ _ HX1.out.1 HX1.out.2).mono ?_
            rintro e w' ⟨rfl, rfl⟩
            go_wp2
            go_ret
            exact ⟨ret_b HZ.out.symm, Below.refl _ _⟩
          | true =>
            have q7 : ((s[0].toNat : Int) != 47) = false := by simpa using h7
            have HQ2 : Hid (z = (decide (1 ≤ x ∧ x ≤ 3) && (decide (0 ≤ t ∧ t ≤ 2147483648) && (decide (x = 2) || decide (t = 0))))) := Lib.hid (by rw [HQ1.out, HH0.out, h7, Bool.true_and])
            clear HQ1 HH0 h1
            by_cases h2 : 1 ≤ x ∧ x ≤ 3
            case neg =>
              have HZ : Hid (polOk l = false) := Lib.hid (HN.out (by rw [HQ2.out, decide_eq_false h2]; rfl))
              have HX : Hid (x < 1 ∨ 3 < x) := Lib.hid (by omega)
              clear h2
              go_wp2_with (fail)
              go_at_call 45
              refine (NumDiv.in_yes _ _ _ _ HX1.out.1 HX1.out.2).mono ?_
              rintro e w' ⟨rfl, rfl⟩
              go_wp2_with (fail)
              go_at_call 45
              refine (NumDiv.in_no _ _ _ _ HX.out).mono ?_
              rintro e w' ⟨rfl, rfl⟩
              go_wp2
              go_ret
              exact ⟨ret_b HZ.out.symm, Below.refl _ _⟩
            have HX2 := Lib.hid h2
            have HQ3 : Hid (z = (decide (0 ≤ t ∧ t ≤ 2147483648) && (decide (x = 2) || decide (t = 0)))) := Lib.hid (by rw [HQ2.out, decide_eq_true h2, Bool.true_and])
            clear h2 HQ2
            by_cases h3 : 0 ≤ t ∧ t ≤ 2147483648
            case neg =>
              have HZ : Hid (polOk l = false) := Lib.hid (HN.out (by rw [HQ3.out, decide_eq_false h3]; rfl))
              have HX : Hid (t < 0 ∨ 2147483648 < t) := Lib.hid (by omega)
              clear h3
              go_wp2_with (fail)
              go_at_call 45
              refine (NumDiv.in_yes _ _ _ _ HX1.out.1 HX1.out.2).mono ?_
              rintro e w' ⟨rfl, rfl⟩
              go_wp2_with (fail)
              go_at_call 45
              refine (NumDiv.in_yes _ _ _ _ HX2.out.1 HX2.out.2).mono ?_
              rintro e w' ⟨rfl, rfl⟩
              go_wp2_with (fail)
              go_at_call 45
              refine (NumDiv.in_no _ _ _ _ HX.out).mono ?_
              rintro e w' ⟨rfl, rfl⟩
              go_wp2
              go_ret
              exact ⟨ret_b HZ.out.symm, Below.refl _ _⟩
            have HX3 := Lib.hid h3
            have HQ4 : Hid (z = (decide (x = 2) || decide (t = 0))) := Lib.hid (by rw [HQ3.out, decide_eq_true h3, Bool.true_and])
            clear h3 HQ3
            have hcs : (x != 2) = false ∧ z = true ∨ ((x != 2) = true ∧ (t != 0) = false ∧ z = true) ∨ ((x != 2) = true ∧ (t != 0) = true ∧ z = false) := by
              rw [HQ4.out]
              by_cases e1 : x = 2
              · left; subst e1; exact ⟨rfl, rfl⟩
              · by_cases e2 : t = 0
                · right; left; subst e2; exact ⟨by simpa using e1, rfl, by simp⟩
                · right; right; exact ⟨by simpa using e1, by simpa using e2, by rw [decide_eq_false e1, decide_eq_false e2]; rfl⟩
            clear HQ4
            rcases hcs with ⟨p1, hz⟩ | ⟨p1, p2, hz⟩ | ⟨p1, p2, hz⟩
            · have HZ := Lib.hid (HM.out hz)
              clear hz
              go_wp2_with (fail)
              go_at_call 45
              refine (NumDiv.in_yes _ _ _ _ HX1.out.1 HX1.out.2).mono ?_
              rintro e w' ⟨rfl, rfl⟩
              go_wp2_with (fail)
              go_at_call 45
              refine (NumDiv.in_yes _ _ _ _ HX2.out.1 HX2.out.2).mono ?_
              rintro e w' ⟨rfl, rfl⟩
              go_wp2_with (fail)
              go_at_call 45
              refine (NumDiv.in_yes _ _ _ _ HX3.out.1 HX3.out.2).mono ?_
              rintro e w' ⟨rfl, rfl⟩
              go_wp2
              go_round
              case rel => exact ⟨k + 1, by omega, by go_num, HZ⟩
              case measure => simp [intOf]; omega
            · have HZ := Lib.hid (HM.out hz)
              clear hz
              go_wp2_with (fail)
              go_at_call 45
              refine (NumDiv.in_yes _ _ _ _ HX1.out.1 HX1.out.2).mono ?_
              rintro e w' ⟨rfl, rfl⟩
              go_wp2_with (fail)
              go_at_call 45
              refine (NumDiv.in_yes _ _ _ _ HX2.out.1 HX2.out.2).mono ?_
              rintro e w' ⟨rfl, rfl⟩
              go_wp2_with (fail)
              go_at_call 45
              refine (NumDiv.in_yes _ _ _ _ HX3.out.1 HX3.out.2).mono ?_
              rintro e w' ⟨rfl, rfl⟩
              go_wp2
              go_round
              case rel => exact ⟨k + 1, by omega, by go_num, HZ⟩
              case measure => simp [intOf]; omega
            · have HZ := Lib.hid (HN.out hz)
              clear hz
              go_wp2_with (fail)
              go_at_call 45
              refine (NumDiv.in_yes _ _ _ _ HX1.out.1 HX1.out.2).mono ?_
              rintro e w' ⟨rfl, rfl⟩
              go_wp2_with (fail)
              go_at_call 45
              refine (NumDiv.in_yes _ _ _ _ HX2.out.1 HX2.out.2).mono ?_
              rintro e w' ⟨rfl, rfl⟩
              go_wp2_with (fail)
              go_at_call 45
              refine (NumDiv.in_yes _ _ _ _ HX3.out.1 HX3.out.2).mono ?_
              rintro e w' ⟨rfl, rfl⟩
              go_wp2
              go_ret
              exact ⟨ret_b HZ.out.symm, Below.refl _ _⟩
    · have HE := Lib.hid (pol_end hlt HP.out)
      go_wp2
      go_ret
      exact ⟨ret_b HE.out.symm, Below.refl _ _⟩
end Go.Proofs.Ytfgpphbfampjjaa.Rul
