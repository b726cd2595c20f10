/-
  CONTRACTS of what is a field's value (the model's l5Value, the program's isFieldValue): at most 200 bytes, each of them a tab or one of 32 to 126, without blanks at its ends.
-/
import Derived.Test.YtobhdfkhfmpdlaaDoorTokFn
import Derived.Test.YtobhdfkhfmpdlaaDoorTrimFn
import Derived.Test.YtobhdfkhfmpdlaaDoorNumIn
import Derived.LoopTactic
namespace Go.Proofs.YtobhdfkhfmpdlaaDoor.Tx
open Go Go.RowKit
set_option linter.unusedVariables false
set_option maxRecDepth 1000000

def okb (c : UInt8) : Bool := (decide (32 ≤ c.toNat) && decide (c.toNat ≤ 126)) || (c == 9)
def valOk (l : List UInt8) : Bool := l.all okb && (decide (l.length ≤ 200) && (trim l == l))
theorem okb_no {c : UInt8} (h : okb c = false) : ((c.toNat : Int) < 32 ∨ 126 < (c.toNat : Int)) ∧ (c.toNat : Int) ≠ 9 := by
  unfold okb at h
  rw [Bool.or_eq_false_iff] at h
  obtain ⟨h1, h2⟩ := h
  constructor
  · by_cases a : 32 ≤ c.toNat
    · right
      by_cases b : c.toNat ≤ 126
      · simp [a, b] at h1
      · omega
    · left; omega
  · intro e
    have : c = 9 := UInt8.toNat_inj.1 (by show c.toNat = 9; omega)
    rw [this] at h2; simp at h2
theorem okb_yes {c : UInt8} (h : okb c = true) : (32 ≤ (c.toNat : Int) ∧ (c.toNat : Int) ≤ 126) ∨ (¬ (32 ≤ (c.toNat : Int) ∧ (c.toNat : Int) ≤ 126) ∧ c = 9) := by
  unfold okb at h
  rw [Bool.or_eq_true] at h
  rcases h with h | h
  · rw [Bool.and_eq_true] at h
    have h1 := of_decide_eq_true h.1
    have h2 := of_decide_eq_true h.2
    left; omega
  · have e : c = 9 := by simpa using h
    subst e; right; exact ⟨by decide, rfl⟩
theorem okb_more {s : ByteArray} {k : Nat} (h : k < s.size) (ha : (s.data.toList.take k).all okb = true) (hc : okb s[k] = true) : (s.data.toList.take (k + 1)).all okb = true := by
  rw [take_snoc s k h, List.all_append, ha, List.all_cons, hc]; rfl
theorem val_bad {s : ByteArray} {k : Nat} (h : k < s.size) (hc : okb s[k] = false) : valOk s.data.toList = false := by
  unfold valOk
  have : s.data.toList.all okb = false := by
    rw [Bool.eq_false_iff]
    intro ha
    have hm : s[k] ∈ s.data.toList := by
      rw [← List.take_append_drop k s.data.toList, drop_cons s k h]; simp
    rw [List.all_eq_true] at ha
    have := ha _ hm
    rw [hc] at this; cases this
  rw [this, Bool.false_and]
theorem val_all {s : ByteArray} {k : Nat} (h : k = s.size) (ha : (s.data.toList.take k).all okb = true) : valOk s.data.toList = (decide (s.size ≤ 200) && (trim s.data.toList == s.data.toList)) := by
  have e : s.data.toList.take k = s.data.toList := List.take_of_length_le (by rw [list_len]; omega)
  rw [e] at ha
  unfold valOk
  rw [ha, Bool.true_and, list_len]

set_option maxHeartbeats 1000000 in
theorem spec_val (s : ByteArray) (w : World) (hs : s.size ≤ 1048576) :
    Calls Tryd.prog 56 #[.string s] w fun e w' => e = .returned (.bool (valOk s.data.toList)) ∧ w = w' := by
  have CT := Lib.hid (spec_trim s w (by omega))
  go_enter Tryd.func56, Tryd.ntmps56
  go_wp2
  go_loop [3] (fun i => ∃ k : Nat, k ≤ s.size ∧ i = .int .i64 k ∧ (s.data.toList.take k).all okb = true) (fun i => s.size - (intOf i).toNat)
  case atStart => exact ⟨0, Nat.zero_le _, rfl, rfl⟩
  case round =>
    obtain ⟨k, hk, rfl, ha⟩ := hrel
    have HA := Lib.hid ha
    clear ha
    by_cases hlt : k < s.size
    · have hb255 : (s[k].toNat : Int) ≤ 255 := by have := s[k].toNat_lt; omega
      rcases hc : okb s[k] with _ | _
      · have HT := Lib.hid (val_bad hlt hc)
        obtain ⟨q1, q2⟩ := okb_no hc
        have HQ := Lib.hid q1
        clear hc q1
        go_wp2_with (go_at_call 70; refine (NumDiv.in_no _ _ _ _ HQ.out).mono ?_; rintro e w' ⟨rfl, rfl⟩)
        go_ret
        exact ⟨ret_bool HT.out.symm, rfl⟩
      · have HT := Lib.hid (okb_more hlt HA.out hc)
        rcases okb_yes hc with ⟨q1, q2⟩ | ⟨q1, q2⟩
        · clear hc
          go_wp2_with (go_at_call 70; refine (NumDiv.in_yes _ _ _ _ q1 q2).mono ?_; rintro e w' ⟨rfl, rfl⟩)
          go_round
          case rel => exact ⟨k + 1, by omega, by go_num, HT.out⟩
          case measure => simp [intOf]; omega
        · have HQ := Lib.hid q1
          clear hc q1
          go_wp2_with (go_at_call 70; refine (NumDiv.in_no _ _ _ _ (by have := HQ.out; omega)).mono ?_; rintro e w' ⟨rfl, rfl⟩)
          go_round
          case rel => exact ⟨k + 1, by omega, by go_num, HT.out⟩
          case measure => simp [intOf]; omega
    · have HT := Lib.hid (val_all (show k = s.size by omega) HA.out)
      have hkk : k = s.size := by omega
      subst hkk
      clear HA hk
      obtain ⟨l, rfl⟩ : ∃ l : List UInt8, s = ⟨l.toArray⟩ := ⟨s.data.toList, rfl⟩
      have hsz : (⟨l.toArray⟩ : ByteArray).size = l.length := by simp [ByteArray.size]
      have HT' : Hid (valOk l = (decide (l.length ≤ 200) && (trim l == l))) := Lib.hid (by have h := HT.out; rw [hsz] at h; exact h)
      have CT' : Hid (Calls Tryd.prog 69 #[.string ⟨l.toArray⟩] w fun e w' => e = .returned (.string ⟨(trim l).toArray⟩) ∧ w = w') := Lib.hid CT.out
      have hs' : l.length ≤ 1048576 := by rw [hsz] at hs; exact hs
      clear HT CT hs
      rw [show (⟨l.toArray⟩ : ByteArray).data.toList = l from rfl]
      generalize trim l = m at HT' CT'
      by_cases h2 : l.length ≤ 200
      · by_cases e : m = l
        · subst e
          have HR : Hid (true = valOk m) := Lib.hid (by rw [HT'.out]; simp [h2])
          clear HT'
          go_wp2_with (go_at_call 69; refine CT'.out.mono ?_; rintro e w' ⟨rfl, rfl⟩)
          go_ret
          exact ⟨ret_bool HR.out, rfl⟩
        · have hq : (m == l) = false := by simpa using e
          have HR : Hid (false = valOk l) := Lib.hid (by rw [HT'.out, hq, Bool.and_false])
          clear HT'
          go_wp2_with (go_at_call 69; refine CT'.out.mono ?_; rintro e w' ⟨rfl, rfl⟩)
          go_ret
          exact ⟨ret_bool HR.out, rfl⟩
      · have HR : Hid (false = valOk l) := Lib.hid (by rw [HT'.out]; simp [h2])
        clear HT' CT'
        go_wp2
        go_ret
        exact ⟨ret_bool HR.out, rfl⟩

set_option maxHeartbeats 1000000 in
theorem impl_val (l : List UInt8) (w : World) (hs : l.length ≤ 1048576) :
    Calls Tryd.prog 60 #[.string ⟨l.toArray⟩] w fun e w' => e = .returned (.bool (valOk l)) ∧ Below w.heap.size w w' := by
  have hsz : (⟨l.toArray⟩ : ByteArray).size = l.length := by simp [ByteArray.size]
  have CT : Hid (Calls Tryd.prog 52 #[.string ⟨l.toArray⟩] w fun e w' => e = .returned (.string ⟨(trim l).toArray⟩) ∧ Below w.heap.size w w') := Lib.hid (impl_trim ⟨l.toArray⟩ w (by rw [hsz]; omega))
  have HV : Hid (valOk l = (l.all okb && (decide (l.length ≤ 200) && (trim l == l)))) := Lib.hid rfl
  generalize trim l = m at CT HV
  by_cases h2 : l.length ≤ 200
  · by_cases e : m = l
    · subst e
      have HV2 : Hid (valOk m = m.all okb) := Lib.hid (by rw [HV.out]; simp [h2])
      clear HV
      obtain ⟨s, hse⟩ : ∃ s : ByteArray, s = ⟨m.toArray⟩ := ⟨_, rfl⟩
      have HM : Hid (s.data.toList = m) := Lib.hid (by rw [hse])
      have hs2 : s.size ≤ 200 := by rw [hse, hsz]; exact h2
      rw [← hse] at CT ⊢
      clear hse hsz hs h2
      go_enter Tryd.func60, Tryd.ntmps60
      go_wp2_with (fail)
      go_at_call 52
      refine CT.out.mono ?_
      rintro e w' ⟨rfl, hb⟩
      have HB := Lib.hid hb
      clear hb CT
      go_wp2
      go_loop [15] (fun i => ∃ k : Nat, k ≤ s.size ∧ i = .int .i64 k ∧ (s.data.toList.take k).all okb = true) (fun i => s.size - (intOf i).toNat)
      case atStart => exact ⟨0, Nat.zero_le _, rfl, rfl⟩
      case round =>
        obtain ⟨k, hk, rfl, ha⟩ := hrel
        have HA := Lib.hid ha
        clear ha
        by_cases hlt : k < s.size
        · have hb255 : (s[k].toNat : Int) ≤ 255 := by have := s[k].toNat_lt; omega
          rcases hc : okb s[k] with _ | _
          · have HT : Hid (false = valOk m) := Lib.hid (by rw [HV2.out, ← HM.out]; symm; rw [Bool.eq_false_iff]; intro ha; have hm : s[k] ∈ s.data.toList := by (rw [← List.take_append_drop k s.data.toList, drop_cons s k hlt]; simp)
                                                           rw [List.all_eq_true] at ha; have := ha _ hm; rw [hc] at this; cases this)
            obtain ⟨q1, q2⟩ := okb_no hc
            clear hc
            rcases q1 with q1 | q1
            · go_wp2
              go_ret
              exact ⟨ret_bool HT.out, HB.out⟩
            · have q3 : ¬ (s[k].toNat : Int) < 32 := by omega
              go_wp2
              go_ret
              exact ⟨ret_bool HT.out, HB.out⟩
          · have HT := Lib.hid (okb_more hlt HA.out hc)
            rcases okb_yes hc with ⟨q1, q2⟩ | ⟨q1, q2⟩
            · have q3 : ¬ (s[k].toNat : Int) < 32 := by omega
              have q4 : ¬ 126 < (s[k].toNat : Int) := by omega
              clear hc
              go_wp2
              go_round
              case rel => exact ⟨k + 1, by omega, by go_num, HT.out⟩
              case measure => simp [intOf]; omega
            · clear hc q1
              go_wp2
              go_round
              case rel => exact ⟨k + 1, by omega, by go_num, HT.out⟩
              case measure => simp [intOf]; omega
        · have HT : Hid (true = valOk m) := Lib.hid (by have h := HA.out; rw [List.take_of_length_le (by rw [list_len]; omega), HM.out] at h; rw [HV2.out, h])
          go_wp2
          go_ret
          exact ⟨ret_bool HT.out, HB.out⟩
    · have hq : (m == l) = false := by simpa using e
      have HR : Hid (false = valOk l) := Lib.hid (by rw [HV.out, hq, Bool.and_false, Bool.and_false])
      clear HV
      go_enter Tryd.func60, Tryd.ntmps60
      go_wp2_with (fail)
      go_at_call 52
      refine CT.out.mono ?_
      rintro e w' ⟨rfl, hb⟩
      go_wp2
      go_ret
      exact ⟨ret_bool HR.out, hb⟩
  · have HR : Hid (false = valOk l) := Lib.hid (by rw [HV.out]; simp [h2])
    clear HV CT
    go_enter Tryd.func60, Tryd.ntmps60
    go_wp2
    go_ret
    exact ⟨ret_bool HR.out, Below.refl _ _⟩
end Go.Proofs.YtobhdfkhfmpdlaaDoor.Tx
