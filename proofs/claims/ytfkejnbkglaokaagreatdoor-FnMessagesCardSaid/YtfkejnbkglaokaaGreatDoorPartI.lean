/-
  CONTRACTS AND PLAIN FACTS, several texts in one; each says in its own words what it proves.
-/
import Derived.Test.YtfkejnbkglaokaaGreatDoorPartB
import Derived.Test.YtfkejnbkglaokaaGreatDoorPartA
import Derived.Test.YtfkejnbkglaokaaGreatDoorPartF
import Derived.LoopTactic
import Derived.Outline
import Derived.Test.YtfkejnbkglaokaaGreatDoorPartH
import Derived.Test.YtfkejnbkglaokaaGreatDoorPartG
import Derived.Test.YtfkejnbkglaokaaGreatDoorPartC
import Derived.Deep.QuietTactic
import Derived.BigQuiet
set_option linter.unusedSimpArgs false
set_option linter.unusedVariables false

/-
  CONTRACTS of both sides' TrimText: at every text each returns it without the blanks at its beginning and its end; nothing that was there before is changed.
-/
namespace Go.Proofs.YtfkejnbkglaokaaGreatDoor.Tx
open Go Go.RowKit
set_option linter.unusedVariables false
set_option maxRecDepth 1000000

theorem impl_trim (s : ByteArray) (w : World) (hs : s.size ≤ 9223372036854775807) :
    Calls Tryz.prog 77 #[.string s] w fun e w' => e = .returned (.string ⟨(trim s.data.toList).toArray⟩) ∧ Below w.heap.size w w' := by
  have hcon := Tryz.strings_Trim_laid s ⟨#[32, 9]⟩ w hs (by decide) (ascii_of_all (by decide))
  change Calls Tryz.prog 83 _ _ (fun e w' => e = .returned (.string ⟨(Lib.trimS s.data.toList [32, 9]).toArray⟩) ∧ Below w.heap.size w w') at hcon
  rw [trim_set] at hcon
  generalize (⟨(trim s.data.toList).toArray⟩ : ByteArray) = r at hcon ⊢
  go_enter Tryz.func77, Tryz.ntmps77
  go_wp2_with (go_at_call 83; refine hcon.mono ?_; rintro e w' ⟨rfl, hB⟩)
  go_ret
  exact ⟨rfl, hB⟩

def slen : Value → Nat
  | .string s => s.size
  | _ => 0
theorem ret_str {a b : List UInt8} (h : a = b) : Ending.returned (.string ⟨a.toArray⟩) = .returned (.string ⟨b.toArray⟩) := by rw [h]
theorem blank_yes (c : UInt8) (h : blk c = true) (w : World) : Calls Tryz.prog 97 #[.int .u8 (c.toNat : Int)] w fun e w' => e = .returned (.bool true) ∧ w = w' := by
  have : c = 32 ∨ c = 9 := by unfold blk at h; simpa using h
  rcases this with rfl | rfl
  all_goals
    go_enter Tryz.func97, Tryz.ntmps97
    go_wp2
    go_ret
    exact ⟨rfl, rfl⟩
theorem blank_no (c : UInt8) (h : blk c = false) (w : World) : Calls Tryz.prog 97 #[.int .u8 (c.toNat : Int)] w fun e w' => e = .returned (.bool false) ∧ w = w' := by
  have h1 : ((c.toNat : Int) == 32) = false := by
    rw [beq_eq_false_iff_ne]; intro e
    have : c = 32 := UInt8.toNat_inj.1 (by simp; omega)
    subst this; revert h; decide
  have h2 : ((c.toNat : Int) == 9) = false := by
    rw [beq_eq_false_iff_ne]; intro e
    have : c = 9 := UInt8.toNat_inj.1 (by simp; omega)
    subst this; revert h; decide
  clear h
  go_enter Tryz.func97, Tryz.ntmps97
  go_wp2
  go_ret
  exact ⟨rfl, rfl⟩

theorem empty_eq {x : ByteArray} (h : x.size = 0) : x.data.toList = [] := List.eq_nil_of_length_eq_zero (by rw [Array.length_toList]; exact h)
theorem ret_trim {x : ByteArray} {a : List UInt8} (h : [] = a) (hx : x.data.toList = []) : Ending.returned (.string x) = .returned (.string ⟨a.toArray⟩) := by
  subst h
  have : x = ⟨#[]⟩ := by
    have : x.data = #[] := by simpa using hx
    cases x; simp_all
  rw [this]
theorem ret_bytes {x : ByteArray} {a : List UInt8} (h : x.data.toList = a) : Ending.returned (.string x) = .returned (.string ⟨a.toArray⟩) := by subst h; simp
theorem cut_front {x : ByteArray} {n : Nat} (h : n ≤ x.size) : (x.extract 0 n).data.toList = x.data.toList.take n := by simp
theorem cut_size {x : ByteArray} {n : Nat} (h : n ≤ x.size) : (x.extract 0 n).size = n := by simp; omega
theorem cut_one (c : UInt8) (r : List UInt8) : Value.string ((⟨(c :: r).toArray⟩ : ByteArray).extract 1 (r.length + 1)) = .string ⟨r.toArray⟩ := by
  congr 1
  have : ((⟨(c :: r).toArray⟩ : ByteArray).extract 1 (r.length + 1)).data = r.toArray := by simp
  exact ByteArray.ext this
theorem last_split {x : ByteArray} {n : Nat} (hn : x.size = n + 1) (h : n < x.size) : x.data.toList = x.data.toList.take n ++ [x[n]] := by
  have e : x.data.toList.take (n + 1) = x.data.toList := List.take_of_length_le (by rw [Array.length_toList]; have : x.data.size = x.size := rfl; omega)
  have s := List.take_succ_eq_append_getElem (l := x.data.toList) (i := n) (by rw [Array.length_toList]; exact h)
  rw [e] at s
  exact s
theorem last_no {x : ByteArray} {n : Nat} (hn : x.size = n + 1) (h : n < x.size) (hb : blk x[n] = false) : trimr x.data.toList = x.data.toList := by
  rw [last_split hn h]; exact trimr_snoc_no hb
theorem last_yes {x : ByteArray} {n : Nat} (hn : x.size = n + 1) (h : n < x.size) (hb : blk x[n] = true) : trimr x.data.toList = trimr (x.data.toList.take n) := by
  conv => lhs; rw [last_split hn h]
  exact trimr_snoc_blk hb

set_option maxHeartbeats 1000000 in
theorem spec_trim (s : ByteArray) (w : World) (hs : s.size ≤ 9223372036854775806) :
    Calls Tryz.prog 75 #[.string s] w fun e w' => e = .returned (.string ⟨(trim s.data.toList).toArray⟩) ∧ w = w' := by
  obtain ⟨l, rfl⟩ : ∃ l : List UInt8, s = ⟨l.toArray⟩ := ⟨s.data.toList, by simp⟩
  show Calls _ _ _ _ (fun e w' => e = .returned (.string ⟨(trim l).toArray⟩) ∧ w = w')
  have hl : l.length ≤ 9223372036854775806 := hs
  clear hs
  go_enter Tryz.func75, Tryz.ntmps75
  go_wp2
  go_loop [0] (fun t => ∃ m : List UInt8, t = .string ⟨m.toArray⟩ ∧ triml m = triml l ∧ m.length ≤ l.length) (fun t => slen t)
  case atStart => exact ⟨l, rfl, rfl, Nat.le_refl _⟩
  case round =>
    obtain ⟨m, rfl, hm, hml⟩ := hrel
    have HM := Lib.hid hm
    clear hm
    cases m with
    | nil =>
      have HT : Hid (trimr [] = trim l) := Lib.hid (by rw [← trimr_triml, ← HM.out]; rfl)
      go_wp2
      go_loop [0] (fun t => ∃ x : ByteArray, t = .string x ∧ trimr x.data.toList = trim l ∧ x.size ≤ l.length) (fun t => slen t)
      case atStart => exact ⟨_, rfl, HT.out, hml⟩
      case round =>
        clear HT HM
        obtain ⟨x, rfl, hm, hml2⟩ := hrel
        have HM := Lib.hid hm
        clear hm
        rcases Nat.eq_zero_or_pos x.size with h0 | h0
        · have HE := Lib.hid (empty_eq h0)
          go_wp2
          go_ret
          exact ⟨ret_trim (by rw [← HM.out, HE.out]; rfl) HE.out, rfl⟩
        · obtain ⟨n, hn⟩ : ∃ n, x.size = n + 1 := ⟨x.size - 1, by omega⟩
          have hxn : n < x.size := by omega
          rcases hb2 : blk x[n] with _ | _
          · have c3 := blank_no x[n] hb2
            have HT := Lib.hid ((last_no hn hxn hb2).symm.trans HM.out)
            go_wp2_with (go_at_call 97; refine (c3 _).mono ?_; rintro e w' ⟨rfl, rfl⟩)
            go_ret
            exact ⟨ret_bytes HT.out, rfl⟩
          · have c3 := blank_yes x[n] hb2
            have HT := Lib.hid ((last_yes hn hxn hb2).symm.trans HM.out)
            go_wp2_with (go_at_call 97; refine (c3 _).mono ?_; rintro e w' ⟨rfl, rfl⟩)
            go_round
            case rel => exact ⟨x.extract 0 n, rfl, by rw [cut_front (by omega)]; exact HT.out, by rw [cut_size (by omega)]; omega⟩
            case measure => simp [slen]; omega
    | cons c r =>
      rcases hb : blk c with _ | _
      · have c1 := blank_no c hb
        have HT : Hid (trimr (c :: r) = trim l) := Lib.hid (by rw [← trimr_triml, ← HM.out, triml_cons_no hb])
        go_wp2_with (go_at_call 97; refine (c1 _).mono ?_; rintro e w' ⟨rfl, rfl⟩)
        go_loop [0] (fun t => ∃ x : ByteArray, t = .string x ∧ trimr x.data.toList = trim l ∧ x.size ≤ l.length) (fun t => slen t)
        case atStart => exact ⟨_, rfl, HT.out, hml⟩
        case round =>
          clear HT HM
          obtain ⟨x, rfl, hm, hml2⟩ := hrel
          have HM := Lib.hid hm
          clear hm
          rcases Nat.eq_zero_or_pos x.size with h0 | h0
          · have HE := Lib.hid (empty_eq h0)
            go_wp2
            go_ret
            exact ⟨ret_trim (by rw [← HM.out, HE.out]; rfl) HE.out, rfl⟩
          · obtain ⟨n, hn⟩ : ∃ n, x.size = n + 1 := ⟨x.size - 1, by omega⟩
            have hxn : n < x.size := by omega
            rcases hb2 : blk x[n] with _ | _
            · have c3 := blank_no x[n] hb2
              have HT := Lib.hid ((last_no hn hxn hb2).symm.trans HM.out)
              go_wp2_with (go_at_call 97; refine (c3 _).mono ?_; rintro e w' ⟨rfl, rfl⟩)
              go_ret
              exact ⟨ret_bytes HT.out, rfl⟩
            · have c3 := blank_yes x[n] hb2
              have HT := Lib.hid ((last_yes hn hxn hb2).symm.trans HM.out)
              go_wp2_with (go_at_call 97; refine (c3 _).mono ?_; rintro e w' ⟨rfl, rfl⟩)
              go_round
              case rel => exact ⟨x.extract 0 n, rfl, by rw [cut_front (by omega)]; exact HT.out, by rw [cut_size (by omega)]; omega⟩
              case measure => simp [slen]; omega
      · have c1 := blank_yes c hb
        have HT := Lib.hid ((triml_cons_blk (l := r) hb).symm.trans HM.out)
        clear HM
        go_wp2_with (go_at_call 97; refine (c1 _).mono ?_; rintro e w' ⟨rfl, rfl⟩)
        go_round
        case rel => exact ⟨r, cut_one c r, HT.out, by simp at hml; omega⟩
        case measure => simp [slen, ByteArray.size]
end Go.Proofs.YtfkejnbkglaokaaGreatDoor.Tx

/-
  CONTRACTS of what is a field's value (the model's l5Value, the program's isFieldValue): at most 200 bytes, each of them a tab or one of 32 to 126, without blanks at its ends.
-/
namespace Go.Proofs.YtfkejnbkglaokaaGreatDoor.Tx
open Go Go.RowKit
set_option linter.unusedVariables false
set_option maxRecDepth 1000000

def okb (c : UInt8) : Bool := (decide (32 ≤ c.toNat) && decide (c.toNat ≤ 126)) || (c == 9)
def valOk (l : List UInt8) : Bool := l.all okb && (decide (l.length ≤ 200) && (trim l == l))
theorem okb_no {c : UInt8} (h : okb c = false) : ((c.toNat : Int) < 32 ∨ 126 < (c.toNat : Int)) ∧ (c.toNat : Int) ≠ 9 := by
  unfold okb at h
  rw [Bool.or_eq_false_iff] at h
  obtain ⟨h1, h2⟩ := h
  constructor
  · by_cases a : 32 ≤ c.toNat
    · right
      by_cases b : c.toNat ≤ 126
      · simp [a, b] at h1
      · omega
    · left; omega
  · intro e
    have : c = 9 := UInt8.toNat_inj.1 (by show c.toNat = 9; omega)
    rw [this] at h2; simp at h2
theorem okb_yes {c : UInt8} (h : okb c = true) : (32 ≤ (c.toNat : Int) ∧ (c.toNat : Int) ≤ 126) ∨ (¬ (32 ≤ (c.toNat : Int) ∧ (c.toNat : Int) ≤ 126) ∧ c = 9) := by
  unfold okb at h
  rw [Bool.or_eq_true] at h
  rcases h with h | h
  · rw [Bool.and_eq_true] at h
    have h1 := of_decide_eq_true h.1
    have h2 := of_decide_eq_true h.2
    left; omega
  · have e : c = 9 := by simpa using h
    subst e; right; exact ⟨by decide, rfl⟩
theorem okb_more {s : ByteArray} {k : Nat} (h : k < s.size) (ha : (s.data.toList.take k).all okb = true) (hc : okb s[k] = true) : (s.data.toList.take (k + 1)).all okb = true := by
  rw [take_snoc s k h, List.all_append, ha, List.all_cons, hc]; rfl
theorem val_bad {s : ByteArray} {k : Nat} (h : k < s.size) (hc : okb s[k] = false) : valOk s.data.toList = false := by
  unfold valOk
  have : s.data.toList.all okb = false := by
    rw [Bool.eq_false_iff]
    intro ha
    have hm : s[k] ∈ s.data.toList := by
      rw [← List.take_append_drop k s.data.toList, drop_cons s k h]; simp
    rw [List.all_eq_true] at ha
    have := ha _ hm
    rw [hc] at this; cases this
  rw [this, Bool.false_and]
theorem val_all {s : ByteArray} {k : Nat} (h : k = s.size) (ha : (s.data.toList.take k).all okb = true) : valOk s.data.toList = (decide (s.size ≤ 200) && (trim s.data.toList == s.data.toList)) := by
  have e : s.data.toList.take k = s.data.toList := List.take_of_length_le (by rw [list_len]; omega)
  rw [e] at ha
  unfold valOk
  rw [ha, Bool.true_and, list_len]

set_option maxHeartbeats 1000000 in
theorem spec_val (s : ByteArray) (w : World) (hs : s.size ≤ 1048576) :
    Calls Tryz.prog 96 #[.string s] w fun e w' => e = .returned (.bool (valOk s.data.toList)) ∧ w = w' := by
  have CT := Lib.hid (spec_trim s w (by omega))
  go_enter Tryz.func96, Tryz.ntmps96
  go_wp2
  go_loop [3] (fun i => ∃ k : Nat, k ≤ s.size ∧ i = .int .i64 k ∧ (s.data.toList.take k).all okb = true) (fun i => s.size - (intOf i).toNat)
  case atStart => exact ⟨0, Nat.zero_le _, rfl, rfl⟩
  case round =>
    obtain ⟨k, hk, rfl, ha⟩ := hrel
    have HA := Lib.hid ha
    clear ha
    by_cases hlt : k < s.size
    · have hb255 : (s[k].toNat : Int) ≤ 255 := by have := s[k].toNat_lt; omega
      rcases hc : okb s[k] with _ | _
      · have HT := Lib.hid (val_bad hlt hc)
        obtain ⟨q1, q2⟩ := okb_no hc
        have HQ := Lib.hid q1
        clear hc q1
        go_wp2_with (go_at_call 44; refine (NumDiv.in_no _ _ _ _ HQ.out).mono ?_; rintro e w' ⟨rfl, rfl⟩)
        go_ret
        exact ⟨ret_bool HT.out.symm, rfl⟩
      · have HT := Lib.hid (okb_more hlt HA.out hc)
        rcases okb_yes hc with ⟨q1, q2⟩ | ⟨q1, q2⟩
        · clear hc
          go_wp2_with (go_at_call 44; refine (NumDiv.in_yes _ _ _ _ q1 q2).mono ?_; rintro e w' ⟨rfl, rfl⟩)
          go_round
          case rel => exact ⟨k + 1, by omega, by go_num, HT.out⟩
          case measure => simp [intOf]; omega
        · have HQ := Lib.hid q1
          clear hc q1
          go_wp2_with (go_at_call 44; refine (NumDiv.in_no _ _ _ _ (by have := HQ.out; omega)).mono ?_; rintro e w' ⟨rfl, rfl⟩)
          go_round
          case rel => exact ⟨k + 1, by omega, by go_num, HT.out⟩
          case measure => simp [intOf]; omega
    · have HT := Lib.hid (val_all (show k = s.size by omega) HA.out)
      have hkk : k = s.size := by omega
      subst hkk
      clear HA hk
      obtain ⟨l, rfl⟩ : ∃ l : List UInt8, s = ⟨l.toArray⟩ := ⟨s.data.toList, rfl⟩
      have hsz : (⟨l.toArray⟩ : ByteArray).size = l.length := by simp [ByteArray.size]
      have HT' : Hid (valOk l = (decide (l.length ≤ 200) && (trim l == l))) := Lib.hid (by have h := HT.out; rw [hsz] at h; exact h)
      have CT' : Hid (Calls Tryz.prog 75 #[.string ⟨l.toArray⟩] w fun e w' => e = .returned (.string ⟨(trim l).toArray⟩) ∧ w = w') := Lib.hid CT.out
      have hs' : l.length ≤ 1048576 := by rw [hsz] at hs; exact hs
      clear HT CT hs
      rw [show (⟨l.toArray⟩ : ByteArray).data.toList = l from rfl]
      generalize trim l = m at HT' CT'
      by_cases h2 : l.length ≤ 200
      · by_cases e : m = l
        · subst e
          have HR : Hid (true = valOk m) := Lib.hid (by rw [HT'.out]; simp [h2])
          clear HT'
          go_wp2_with (go_at_call 75; refine CT'.out.mono ?_; rintro e w' ⟨rfl, rfl⟩)
          go_ret
          exact ⟨ret_bool HR.out, rfl⟩
        · have hq : (m == l) = false := by simpa using e
          have HR : Hid (false = valOk l) := Lib.hid (by rw [HT'.out, hq, Bool.and_false])
          clear HT'
          go_wp2_with (go_at_call 75; refine CT'.out.mono ?_; rintro e w' ⟨rfl, rfl⟩)
          go_ret
          exact ⟨ret_bool HR.out, rfl⟩
      · have HR : Hid (false = valOk l) := Lib.hid (by rw [HT'.out]; simp [h2])
        clear HT' CT'
        go_wp2
        go_ret
        exact ⟨ret_bool HR.out, rfl⟩

set_option maxHeartbeats 1000000 in
theorem impl_val (l : List UInt8) (w : World) (hs : l.length ≤ 1048576) :
    Calls Tryz.prog 101 #[.string ⟨l.toArray⟩] w fun e w' => e = .returned (.bool (valOk l)) ∧ Below w.heap.size w w' := by
  have hsz : (⟨l.toArray⟩ : ByteArray).size = l.length := by simp [ByteArray.size]
  have CT : Hid (Calls Tryz.prog 77 #[.string ⟨l.toArray⟩] w fun e w' => e = .returned (.string ⟨(trim l).toArray⟩) ∧ Below w.heap.size w w') := Lib.hid (impl_trim ⟨l.toArray⟩ w (by rw [hsz]; omega))
  have HV : Hid (valOk l = (l.all okb && (decide (l.length ≤ 200) && (trim l == l)))) := Lib.hid rfl
  generalize trim l = m at CT HV
  by_cases h2 : l.length ≤ 200
  · by_cases e : m = l
    · subst e
      have HV2 : Hid (valOk m = m.all okb) := Lib.hid (by rw [HV.out]; simp [h2])
      clear HV
      obtain ⟨s, hse⟩ : ∃ s : ByteArray, s = ⟨m.toArray⟩ := ⟨_, rfl⟩
      have HM : Hid (s.data.toList = m) := Lib.hid (by rw [hse])
      have hs2 : s.size ≤ 200 := by rw [hse, hsz]; exact h2
      rw [← hse] at CT ⊢
      clear hse hsz hs h2
      go_enter Tryz.func101, Tryz.ntmps101
      go_wp2_with (fail)
      go_at_call 77
      refine CT.out.mono ?_
      rintro e w' ⟨rfl, hb⟩
      have HB := Lib.hid hb
      clear hb CT
      go_wp2
      go_loop [15] (fun i => ∃ k : Nat, k ≤ s.size ∧ i = .int .i64 k ∧ (s.data.toList.take k).all okb = true) (fun i => s.size - (intOf i).toNat)
      case atStart => exact ⟨0, Nat.zero_le _, rfl, rfl⟩
      case round =>
        obtain ⟨k, hk, rfl, ha⟩ := hrel
        have HA := Lib.hid ha
        clear ha
        by_cases hlt : k < s.size
        · have hb255 : (s[k].toNat : Int) ≤ 255 := by have := s[k].toNat_lt; omega
          rcases hc : okb s[k] with _ | _
          · have HT : Hid (false = valOk m) := Lib.hid (by rw [HV2.out, ← HM.out]; symm; rw [Bool.eq_false_iff]; intro ha; have hm : s[k] ∈ s.data.toList := by (rw [← List.take_append_drop k s.data.toList, drop_cons s k hlt]; simp)
                                                           rw [List.all_eq_true] at ha; have := ha _ hm; rw [hc] at this; cases this)
            obtain ⟨q1, q2⟩ := okb_no hc
            clear hc
            rcases q1 with q1 | q1
            · go_wp2
              go_ret
              exact ⟨ret_bool HT.out, HB.out⟩
            · have q3 : ¬ (s[k].toNat : Int) < 32 := by omega
              go_wp2
              go_ret
              exact ⟨ret_bool HT.out, HB.out⟩
          · have HT := Lib.hid (okb_more hlt HA.out hc)
            rcases okb_yes hc with ⟨q1, q2⟩ | ⟨q1, q2⟩
            · have q3 : ¬ (s[k].toNat : Int) < 32 := by omega
              have q4 : ¬ 126 < (s[k].toNat : Int) := by omega
              clear hc
              go_wp2
              go_round
              case rel => exact ⟨k + 1, by omega, by go_num, HT.out⟩
              case measure => simp [intOf]; omega
            · clear hc q1
              go_wp2
              go_round
              case rel => exact ⟨k + 1, by omega, by go_num, HT.out⟩
              case measure => simp [intOf]; omega
        · have HT : Hid (true = valOk m) := Lib.hid (by have h := HA.out; rw [List.take_of_length_le (by rw [list_len]; omega), HM.out] at h; rw [HV2.out, h])
          go_wp2
          go_ret
          exact ⟨ret_bool HT.out, HB.out⟩
    · have hq : (m == l) = false := by simpa using e
      have HR : Hid (false = valOk l) := Lib.hid (by rw [HV.out, hq, Bool.and_false, Bool.and_false])
      clear HV
      go_enter Tryz.func101, Tryz.ntmps101
      go_wp2_with (fail)
      go_at_call 77
      refine CT.out.mono ?_
      rintro e w' ⟨rfl, hb⟩
      go_wp2
      go_ret
      exact ⟨ret_bool HR.out, hb⟩
  · have HR : Hid (false = valOk l) := Lib.hid (by rw [HV.out]; simp [h2])
    clear HV CT
    go_enter Tryz.func101, Tryz.ntmps101
    go_wp2
    go_ret
    exact ⟨ret_bool HR.out, Below.refl _ _⟩
end Go.Proofs.YtfkejnbkglaokaaGreatDoor.Tx

/-
  CONTRACTS of AreFields, the model's and the program's (by slices.ContainsFunc): at most 24 fields, each with a proper name and value; nothing that was there before is changed.
-/
namespace Go.Proofs.YtfkejnbkglaokaaGreatDoor.Flds
open Go Go.RowKit
set_option linter.unusedVariables false
set_option maxRecDepth 1000000

def fldOk (f : Fld) : Bool := Tx.nameOk f.1 && Tx.valOk f.2
def fldsOk (l : List Fld) : Bool := l.all fldOk && decide (l.length ≤ 24)
theorem size_of {l : List Fld} {k : Nat} (h : k < l.length) : (l.getD k nofld).1.length ≤ total l ∧ (l.getD k nofld).2.length ≤ total l := by
  have h1 := pre_more h
  have h2 : pre l (k + 1) ≤ total l := by
    unfold pre total
    conv => rhs; rw [← List.take_append_drop (k + 1) l]
    rw [List.map_append, List.sum_append]; omega
  omega
theorem all_more {l : List Fld} {k : Nat} (h : k < l.length) : (l.take (k + 1)).all fldOk = ((l.take k).all fldOk && fldOk (l.getD k nofld)) := by
  rw [List.take_succ_eq_append_getElem h, List.all_append, show l.getD k nofld = l[k] by simp [List.getD, h]]; simp
theorem all_bad {l : List Fld} {k : Nat} (h : k < l.length) (e : fldOk (l.getD k nofld) = false) : l.all fldOk = false := by
  rw [Bool.eq_false_iff]
  intro ha
  rw [List.all_eq_true] at ha
  have := ha l[k] (List.getElem_mem _)
  rw [show l.getD k nofld = l[k] by simp [List.getD, h]] at e
  rw [e] at this; cases this
theorem ret_b {a b : Bool} (h : a = b) : Ending.returned (.bool a) = .returned (.bool b) := by rw [h]
theorem shape_set {w : World} {B : Nat} {v : Value} {l : List Fld} (h : Holds w B v l) : ∃ a cap, v = .slice a l.length cap ∧ (0 < l.length → ∃ b off, a = some ⟨b, off, none⟩ ∧ b < B ∧ At w b off l) := by
  rcases h with ⟨rfl, a, cap, rfl⟩ | ⟨h0, b, off, cap, rfl, hb, _, hc⟩
  · exact ⟨a, cap, rfl, fun h => by simp at h⟩
  · exact ⟨_, cap, rfl, fun _ => ⟨b, off, rfl, hb, hc⟩⟩

def AreEnd (l : List Fld) (w : World) (e : Ending) (w' : World) : Prop := e = .returned (.bool (fldsOk l)) ∧ Below w.heap.size w w'

set_option maxHeartbeats 2000000 in
theorem spec_are (v : Value) (B : Nat) (l : List Fld) (w : World) (h : Holds w B v l) (hB : B ≤ w.heap.size) (hl : total l ≤ 1048576) :
    Calls Tryz.prog 73 #[v] w (AreEnd l w) := by
  have hll : l.length ≤ 1048576 := by unfold total at hl; omega
  obtain ⟨a, cap, rfl, ha⟩ := shape_set h
  have HA := Lib.hid ha
  have HT := Lib.hid hl
  clear ha h hl
  go_enter Tryz.func73, Tryz.ntmps73
  go_wp2
  go_loopw [3] (fun i wr => ∃ k : Nat, k ≤ l.length ∧ i = .int .i64 (k : Int) ∧ Hid ((l.take k).all fldOk = true) ∧ Below w.heap.size w wr) (fun i _ => l.length - (intOf i).toNat)
  case atStart => exact ⟨0, Nat.zero_le _, rfl, rfl, Below.refl _ _⟩
  case round =>
    obtain ⟨k, hk, rfl, hn, hb⟩ := hrel
    by_cases hlt : k < l.length
    · obtain ⟨b, off, rfl, hbl, hc⟩ := HA.out (by omega)
      obtain ⟨c1, c2⟩ := at_below hc hb (by omega) k hlt
      have HC := Lib.hid hc
      have HB := Lib.hid hb
      have HM := Lib.hid (all_more hlt)
      have HX : Hid (fldOk (l.getD k nofld) = false → fldsOk l = false) := Lib.hid (fun e => by unfold fldsOk; rw [all_bad hlt e]; rfl)
      obtain ⟨z1, z2⟩ := size_of hlt
      have HZ := Lib.hid (And.intro (Nat.le_trans z1 HT.out) (Nat.le_trans z2 HT.out))
      generalize hx : l.getD k nofld = f at c1 c2 HM HX HZ
      obtain ⟨x, y⟩ := f
      have HE := Lib.hid hx
      clear hx hb hc z1 z2
      unfold sv at c1 c2
      unfold fldOk at HX
      have HN := Lib.hid (Tx.spec_name x wr HZ.out.1)
      have HV : Hid (∀ wz : World, Calls Tryz.prog 96 #[.string ⟨y.toArray⟩] wz fun e w' => e = .returned (.bool (Tx.valOk y)) ∧ wz = w') := Lib.hid (fun wz => Tx.spec_val ⟨y.toArray⟩ wz (by have := HZ.out.2; simp [ByteArray.size]; exact this))
      have HF : Hid (fldOk (x, y) = (Tx.nameOk x && Tx.valOk y)) := Lib.hid rfl
      simp only at HX
      generalize Tx.nameOk x = p at HN HX HF
      generalize Tx.valOk y = q at HV HX HF
      go_wp2_with (fail)
      go_at_call 95
      refine HN.out.mono ?_
      rintro e w1 ⟨rfl, hb1⟩
      have hb2 := Base.then_below HB.out hb1
      have d2 : w1.cell? ⟨b, off + k * 2 + 1, none⟩ = some (.string ⟨y.toArray⟩) := by
        have h := (at_below HC.out hb2 (by omega) k hlt).2
        rw [HE.out] at h; exact h
      have HB := Lib.hid hb2
      clear hb1 hb2 c1 c2
      cases p
      · have HR : Hid (false = fldsOk l) := Lib.hid (HX.out rfl).symm
        clear HX HM hn
        go_wp2
        go_ret
        exact ⟨ret_b HR.out, HB.out⟩
      · cases q
        · have HR : Hid (false = fldsOk l) := Lib.hid (HX.out rfl).symm
          clear HX HM hn
          go_wp2_with (go_at_call 96; refine (HV.out w1).mono ?_; rintro e w2 ⟨rfl, rfl⟩)
          go_ret
          exact ⟨ret_b HR.out, HB.out⟩
        · have HT2 : Hid ((l.take (k + 1)).all fldOk = true) := Lib.hid (by rw [HM.out, hn.out, HF.out]; rfl)
          clear HX HM hn
          go_wp2_with (go_at_call 96; refine (HV.out w1).mono ?_; rintro e w2 ⟨rfl, rfl⟩)
          go_roundw
          case rel => exact ⟨k + 1, by omega, by go_num, HT2.out, HB.out⟩
          case measure => simp [intOf]; omega
    · have HR : Hid (decide ((l.length : Int) ≤ 24) = fldsOk l) := Lib.hid (by
        have h := hn.out
        rw [List.take_of_length_le (by omega)] at h
        unfold fldsOk; rw [h, Bool.true_and, Bool.eq_iff_iff]; simp; omega)
      have HB := Lib.hid hb
      clear hb hn
      by_cases h24 : l.length ≤ 24
      · have hi : (l.length : Int) ≤ 24 := by omega
        have HR' : Hid (true = fldsOk l) := Lib.hid (by rw [← HR.out]; simp; omega)
        clear HR
        go_wp2
        go_ret
        exact ⟨ret_b HR'.out, HB.out⟩
      · have hi : ¬ (l.length : Int) ≤ 24 := by omega
        have HR' : Hid (false = fldsOk l) := Lib.hid (by rw [← HR.out]; symm; simp; omega)
        clear HR
        go_wp2
        go_ret
        exact ⟨ret_b HR'.out, HB.out⟩

/-! The program's. -/
theorem are_closure (x y : List UInt8) (w : World) (h1 : x.length ≤ 1048576) (h2 : y.length ≤ 1048576) :
    Calls Tryz.prog 99 #[.agg #[.string ⟨x.toArray⟩, .string ⟨y.toArray⟩]] w fun e w' => e = .returned (.bool (!fldOk (x, y))) ∧ Below w.heap.size w w' := by
  have HN := Lib.hid (Tx.impl_name x (w.alloc (.cells #[.string ⟨x.toArray⟩, .string ⟨y.toArray⟩] 48)) h1)
  have HV : Hid (∀ wz : World, Calls Tryz.prog 101 #[.string ⟨y.toArray⟩] wz fun e w' => e = .returned (.bool (Tx.valOk y)) ∧ Below wz.heap.size wz w') := Lib.hid (fun wz => Tx.impl_val y wz h2)
  have hba : Below w.heap.size w (w.alloc (.cells #[.string ⟨x.toArray⟩, .string ⟨y.toArray⟩] 48)) := (Below.refl _ _).alloc (Nat.le_refl _) _
  have n2 : (w.alloc (.cells #[.string ⟨x.toArray⟩, .string ⟨y.toArray⟩] 48)).cell? ⟨w.heap.size, 1, none⟩ = some (.string ⟨y.toArray⟩) := by rw [World.cell?_alloc_new]; rfl
  have HA := Lib.hid (And.intro hba n2)
  clear hba n2
  unfold fldOk
  simp only
  generalize Tx.nameOk x = p at HN ⊢
  generalize Tx.valOk y = q at HV ⊢
  go_enter Tryz.func99, Tryz.ntmps99
  go_wp2_with (fail)
  go_at_call 100
  refine HN.out.mono ?_
  rintro e w1 ⟨rfl, hb1⟩
  have d2 : w1.cell? ⟨w.heap.size, 1, none⟩ = some (.string ⟨y.toArray⟩) := (hb1.cell (p := ⟨w.heap.size, 1, none⟩) (by rw [World.size_alloc]; exact Nat.lt_succ_self _)).trans HA.out.2
  have HB := Lib.hid (Base.then_below HA.out.1 hb1)
  clear hb1
  cases p
  · go_wp2
    go_ret
    exact ⟨rfl, HB.out⟩
  · go_wp2_with (fail)
    go_at_call 101
    refine (HV.out w1).mono ?_
    rintro e w2 ⟨rfl, hb2⟩
    have HB2 := Lib.hid (Base.then_below HB.out hb2)
    clear hb2
    cases q
    · go_wp2
      go_ret
      exact ⟨rfl, HB2.out⟩
    · go_wp2
      go_ret
      exact ⟨rfl, HB2.out⟩

def IdxEnd0 (l : List Fld) (w : World) (e : Ending) (w' : World) : Prop := ∃ z : Int, e = .returned (.int .i64 z) ∧ ((0 ≤ z ∧ l.all fldOk = false) ∨ (z < 0 ∧ l.all fldOk = true)) ∧ Below w.heap.size w w'

set_option maxHeartbeats 1000000 in
theorem idx_are (v : Value) (B : Nat) (l : List Fld) (w : World) (h : Holds w B v l) (hB : B ≤ w.heap.size) (hl : total l ≤ 1048576) :
    Calls Tryz.prog 118 #[v, .func (.func 99) #[] #[]] w (IdxEnd0 l w) := by
  have hll : l.length ≤ 1048576 := by unfold total at hl; omega
  obtain ⟨a, cap, rfl, ha⟩ := shape_set h
  have HA := Lib.hid ha
  have HT := Lib.hid hl
  clear ha h hl
  go_enter Tryz.func118, Tryz.ntmps118
  go_wp2
  go_loopw [8] (fun i wr => ∃ k : Nat, k ≤ l.length ∧ i = .int .i64 (k : Int) ∧ Hid ((l.take k).all fldOk = true) ∧ Below w.heap.size w wr) (fun i _ => l.length - (intOf i).toNat)
  case atStart => exact ⟨0, Nat.zero_le _, rfl, rfl, Below.refl _ _⟩
  case round =>
    obtain ⟨k, hk, rfl, hn, hb⟩ := hrel
    by_cases hlt : k < l.length
    · obtain ⟨b, off, rfl, hbl, hc⟩ := HA.out (by omega)
      obtain ⟨c1, c2⟩ := at_below hc hb (by omega) k hlt
      have HB := Lib.hid hb
      have HM := Lib.hid (all_more hlt)
      have HX : Hid (fldOk (l.getD k nofld) = false → l.all fldOk = false) := Lib.hid (all_bad hlt)
      obtain ⟨z1, z2⟩ := size_of hlt
      have HZ := Lib.hid (And.intro (Nat.le_trans z1 HT.out) (Nat.le_trans z2 HT.out))
      generalize l.getD k nofld = f at c1 c2 HM HX HZ
      obtain ⟨x, y⟩ := f
      clear hb hc z1 z2
      unfold sv at c1 c2
      have HK := Lib.hid (are_closure x y wr HZ.out.1 HZ.out.2)
      generalize fldOk (x, y) = q at HK HM HX
      go_wp2_with (fail)
      go_at_call 99
      refine HK.out.mono ?_
      rintro e w1 ⟨rfl, hb1⟩
      have HB1 := Lib.hid (Base.then_below HB.out hb1)
      clear hb1
      cases q
      · have HR : Hid (l.all fldOk = false) := Lib.hid (HX.out rfl)
        clear HX HM hn
        go_wp2
        go_ret
        exact ⟨_, rfl, Or.inl ⟨by omega, HR.out⟩, HB1.out⟩
      · have HR : Hid ((l.take (k + 1)).all fldOk = true) := Lib.hid (by rw [HM.out, hn.out]; rfl)
        clear HX HM hn
        go_wp2
        go_roundw
        case rel => exact ⟨k + 1, by omega, by go_num, HR.out, HB1.out⟩
        case measure => simp [intOf]; omega
    · have HR : Hid (l.all fldOk = true) := Lib.hid (by have h := hn.out; rwa [List.take_of_length_le (by omega)] at h)
      go_wp2
      go_ret
      exact ⟨_, rfl, Or.inr ⟨by decide, HR.out⟩, hb⟩

theorem contains_are (v : Value) (B : Nat) (l : List Fld) (w : World) (h : Holds w B v l) (hB : B ≤ w.heap.size) (hl : total l ≤ 1048576) :
    Calls Tryz.prog 85 #[v, .func (.func 99) #[] #[]] w fun e w' => e = .returned (.bool (!l.all fldOk)) ∧ Below w.heap.size w w' := by
  have HI := Lib.hid (idx_are v B l w h hB hl)
  clear h
  go_enter Tryz.func85, Tryz.ntmps85
  go_wp2_with (fail)
  go_at_call 118
  refine HI.out.mono ?_
  rintro e w1 ⟨z, rfl, hz, hb⟩
  rcases hz with ⟨hz, hp⟩ | ⟨hz, hp⟩
  · have HP := Lib.hid hp
    have HB := Lib.hid hb
    clear hb hp
    go_wp2
    go_ret
    exact ⟨congrArg (fun q => Ending.returned (.bool q)) (show true = !l.all fldOk by rw [HP.out]; rfl), HB.out⟩
  · have HP := Lib.hid hp
    have hzn : ¬ 0 ≤ z := by omega
    have HB := Lib.hid hb
    clear hb hp
    go_wp2
    go_ret
    exact ⟨congrArg (fun q => Ending.returned (.bool q)) (show decide (0 ≤ z) = !l.all fldOk by rw [HP.out]; simp; omega), HB.out⟩

theorem impl_are (v : Value) (B : Nat) (l : List Fld) (w : World) (h : Holds w B v l) (hB : B ≤ w.heap.size) (hl : total l ≤ 1048576) :
    Calls Tryz.prog 78 #[v] w (AreEnd l w) := by
  have hll : l.length ≤ 1048576 := by unfold total at hl; omega
  have HI := Lib.hid (contains_are v B l w h hB hl)
  obtain ⟨a, cap, rfl, ha⟩ := shape_set h
  have HF : Hid (fldsOk l = (l.all fldOk && decide (l.length ≤ 24))) := Lib.hid rfl
  clear h ha hl
  by_cases h24 : l.length ≤ 24
  · have hi : (l.length : Int) ≤ 24 := by omega
    have HF' : Hid (fldsOk l = l.all fldOk) := Lib.hid (by rw [HF.out]; simp [h24])
    clear HF
    generalize l.all fldOk = q at HI HF'
    go_enter Tryz.func78, Tryz.ntmps78
    go_wp2_with (fail)
    go_at_call 85
    refine HI.out.mono ?_
    rintro e w1 ⟨rfl, hb⟩
    go_wp2
    go_ret
    refine ⟨congrArg (fun q => Ending.returned (.bool q)) (show _ = fldsOk l from ?_), hb⟩
    rw [HF'.out]
    all_goals simp
  · have hi : ¬ (l.length : Int) ≤ 24 := by omega
    have HF' : Hid (false = fldsOk l) := Lib.hid (by rw [HF.out]; simp [h24])
    clear HF HI
    go_enter Tryz.func78, Tryz.ntmps78
    go_wp2
    go_ret
    exact ⟨ret_b HF'.out, Below.refl _ _⟩
end Go.Proofs.YtfkejnbkglaokaaGreatDoor.Flds

/-
  CONTRACT of strings.Cut at a separator of one byte: what stands before the first such byte, what stands behind it, and whether there is one; nothing that was there before is changed.
-/
namespace Go.Proofs.YtfkejnbkglaokaaGreatDoor.Tx
open Go Go.RowKit
set_option linter.unusedVariables false
set_option maxRecDepth 1000000

theorem indexByte_idx (c : UInt8) (l : List UInt8) : Lib.indexByte l c = if idx c l < l.length then (idx c l : Int) else -1 := by
  induction l with
  | nil => simp [Lib.indexByte, idx]
  | cons a r ih =>
    unfold Lib.indexByte idx
    by_cases h : a == c
    · rw [if_pos h, if_pos h, if_pos (by simp)]; rfl
    · rw [if_neg h, if_neg h, ih]
      by_cases hl : idx c r < r.length
      · have hn : ((idx c r : Int) == -1) = false := by rw [beq_eq_false_iff_ne]; omega
        rw [if_pos hl, hn, if_neg (by simp), if_pos (by simp; omega)]; omega
      · rw [if_neg hl, if_pos (by decide), if_neg (by simp; omega)]
/-- How a cut ends. -/
def CutEnd (c : UInt8) (l : List UInt8) (w : World) (e : Ending) (w' : World) : Prop :=
  e = .returned (.tuple #[.string ⟨(cutAt c l).1.toArray⟩, .string ⟨(cutAt c l).2.1.toArray⟩, .bool (cutAt c l).2.2]) ∧ Below w.heap.size w w'
theorem below_drewN' {B : Nat} {a w : World} (h : Below B a w) (n : Nat) : Below B a (w.drewN n) := ⟨h.os, h.tape, h.output, h.size, h.block⟩
theorem ext_eq (s : ByteArray) (a b : Nat) : s.extract a b = ⟨((s.data.toList.drop a).take (b - a)).toArray⟩ := by
  apply ByteArray.ext
  rw [ByteArray.data_extract]
  apply Array.ext'
  simp
theorem cut_hit {s : ByteArray} {c : UInt8} {w w' : World} {i : Nat} (hi : i = idx c s.data.toList) (h : i < s.size) (hb : Below w.heap.size w w') :
    CutEnd c s.data.toList w (.returned (.tuple #[.string (s.extract 0 i), .string (s.extract (i + 1) s.size), .bool true])) w' := by
  have hl : s.data.toList.length = s.size := by rw [Array.length_toList]; rfl
  have e : cutAt c s.data.toList = (s.data.toList.take i, s.data.toList.drop (i + 1), true) := by
    unfold cutAt; rw [← hi, hl, if_pos h]
  unfold CutEnd
  rw [e, ext_eq, ext_eq]
  refine ⟨?_, hb⟩
  have h2 : (s.data.toList.drop (i + 1)).take (s.size - (i + 1)) = s.data.toList.drop (i + 1) := List.take_of_length_le (by rw [List.length_drop, hl]; omega)
  rw [h2, List.drop_zero, Nat.sub_zero]
theorem cut_miss {s : ByteArray} {c : UInt8} {w w' : World} (h : ¬ idx c s.data.toList < s.size) (hb : Below w.heap.size w w') :
    CutEnd c s.data.toList w (.returned (.tuple #[.string s, .string ⟨#[]⟩, .bool false])) w' := by
  have hl : s.data.toList.length = s.size := by rw [Array.length_toList]; rfl
  have e : cutAt c s.data.toList = (s.data.toList, [], false) := by
    unfold cutAt; rw [hl, if_neg h]
  unfold CutEnd
  rw [e]
  exact ⟨by simp, hb⟩

set_option maxHeartbeats 1000000 in
theorem lite_cut (s : ByteArray) (c : UInt8) (w : World) (hs : s.size ≤ 9223372036854775806) :
    Calls Tryz.prog 52 #[.string s, .string ⟨#[c]⟩] w (CutEnd c s.data.toList w) := by
  have hl : s.data.toList.length = s.size := by rw [Array.length_toList]; rfl
  have c1 := Tryz.stringslite_Index_one s c w
  rw [indexByte_idx, hl] at c1
  by_cases h : idx c s.data.toList < s.size
  · rw [if_pos h] at c1
    obtain ⟨i, hi⟩ : ∃ i, i = idx c s.data.toList := ⟨_, rfl⟩
    rw [← hi] at c1 h
    have HI := Lib.hid hi
    clear hi hl
    go_enter Tryz.func52, Tryz.ntmps52
    go_wp2_with (go_at_call 79; refine c1.mono ?_; rintro e w' ⟨rfl, rfl⟩)
    go_quiet (fail)
    go_wp2
    go_ret3
    exact cut_hit HI.out h (below_drewN' (Below.refl _ _) _)
  · rw [if_neg h] at c1
    have H := Lib.hid h
    clear h hl
    go_enter Tryz.func52, Tryz.ntmps52
    go_wp2_with (go_at_call 79; refine c1.mono ?_; rintro e w' ⟨rfl, rfl⟩)
    go_ret3
    exact cut_miss H.out (Below.refl _ _)

theorem cut_any (s : ByteArray) (c : UInt8) (w : World) (hs : s.size ≤ 9223372036854775806) :
    Calls Tryz.prog 28 #[.string s, .string ⟨#[c]⟩] w (CutEnd c s.data.toList w) := by
  have c1 := lite_cut s c w hs
  go_enter Tryz.func28, Tryz.ntmps28
  go_wp2_with (go_at_call 52; refine c1.mono ?_; rintro e w' ⟨rfl, hb⟩)
  go_ret3
  exact ⟨rfl, hb⟩
end Go.Proofs.YtfkejnbkglaokaaGreatDoor.Tx
