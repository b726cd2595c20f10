/-
  CONTRACTS AND PLAIN FACTS, several texts in one; each says in its own words what it proves.
-/
import Derived.Test.YtndbhjgfaghelaaGreatDoorPartD
import Derived.LoopTactic
import Derived.Test.YtndbhjgfaghelaaGreatDoorPartA
import Derived.Test.YtndbhjgfaghelaaGreatDoorPartC
import Derived.Outline
import Derived.Test.YtndbhjgfaghelaaGreatDoorPartB
import Derived.ChangeSlices
import Derived.ChangeArms
import Derived.OwnWalk
import Derived.Laws.OwnMore
import Derived.Laws.AppendOwn
import Derived.Deep.Slices
import Derived.OneCell
set_option linter.unusedSimpArgs false
set_option linter.unusedVariables false

/-
  CONTRACTS of what is a field's name (the model's l5Name, the program's isFieldName): a token without letters in upper case.
-/
namespace Go.Proofs.YtndbhjgfaghelaaGreatDoor.Tx
open Go Go.RowKit
set_option linter.unusedVariables false
set_option maxRecDepth 1000000

def nameOk (l : List UInt8) : Bool := token l && (lower l == l)

theorem spec_name (l : List UInt8) (w : World) (hs : l.length ≤ 1048576) :
    Calls Tryz.prog 112 #[.string ⟨l.toArray⟩] w fun e w' => e = .returned (.bool (nameOk l)) ∧ Below w.heap.size w w' := by
  have hsz : (⟨l.toArray⟩ : ByteArray).size ≤ 9223372036854775806 := by simp [ByteArray.size]; omega
  have c1 := spec_token ⟨l.toArray⟩ w hsz
  have c2 := spec_lower ⟨l.toArray⟩ w hsz
  have C1 : Hid (Calls Tryz.prog 116 #[.string ⟨l.toArray⟩] w fun e w' => e = .returned (.bool (token l)) ∧ w = w') := Lib.hid c1
  have C2 : Hid (Calls Tryz.prog 161 #[.string ⟨l.toArray⟩] w fun e w' => e = .returned (.string ⟨(lower l).toArray⟩) ∧ Below w.heap.size w w') := Lib.hid c2
  clear c1 c2 hsz
  unfold nameOk
  generalize token l = t at C1 ⊢
  generalize lower l = m at C2 ⊢
  cases t
  · go_enter Tryz.func112, Tryz.ntmps112
    go_wp2_with (go_at_call 116; refine C1.out.mono ?_; rintro e w' ⟨rfl, rfl⟩)
    go_ret
    exact ⟨rfl, Below.refl _ _⟩
  · by_cases e : m = l
    · subst e
      go_enter Tryz.func112, Tryz.ntmps112
      go_wp2_with (first
        | (go_at_call 116; refine C1.out.mono ?_; rintro e w' ⟨rfl, rfl⟩)
        | (go_at_call 161; refine C2.out.mono ?_; rintro e w2 ⟨rfl, hb⟩))
      go_ret
      exact ⟨by simp, hb⟩
    · have hq : (m == l) = false := by simpa using e
      go_enter Tryz.func112, Tryz.ntmps112
      go_wp2_with (first
        | (go_at_call 116; refine C1.out.mono ?_; rintro e w' ⟨rfl, rfl⟩)
        | (go_at_call 161; refine C2.out.mono ?_; rintro e w2 ⟨rfl, hb⟩))
      go_ret
      exact ⟨by rw [hq]; rfl, hb⟩

theorem impl_name (l : List UInt8) (w : World) (hs : l.length ≤ 1048576) :
    Calls Tryz.prog 177 #[.string ⟨l.toArray⟩] w fun e w' => e = .returned (.bool (nameOk l)) ∧ Below w.heap.size w w' := by
  have hsz : (⟨l.toArray⟩ : ByteArray).size ≤ 9223372036854775806 := by simp [ByteArray.size]; omega
  have c1 := impl_token ⟨l.toArray⟩ w hsz
  have c2 := impl_lower ⟨l.toArray⟩ w hsz
  have C1 : Hid (Calls Tryz.prog 108 #[.string ⟨l.toArray⟩] w fun e w' => e = .returned (.bool (token l)) ∧ w = w') := Lib.hid c1
  have C2 : Hid (Calls Tryz.prog 109 #[.string ⟨l.toArray⟩] w fun e w' => e = .returned (.string ⟨(lower l).toArray⟩) ∧ Below w.heap.size w w') := Lib.hid c2
  clear c1 c2 hsz
  unfold nameOk
  generalize token l = t at C1 ⊢
  generalize lower l = m at C2 ⊢
  cases t
  · go_enter Tryz.func177, Tryz.ntmps177
    go_wp2_with (go_at_call 108; refine C1.out.mono ?_; rintro e w' ⟨rfl, rfl⟩)
    go_ret
    exact ⟨rfl, Below.refl _ _⟩
  · by_cases e : m = l
    · subst e
      go_enter Tryz.func177, Tryz.ntmps177
      go_wp2_with (first
        | (go_at_call 108; refine C1.out.mono ?_; rintro e w' ⟨rfl, rfl⟩)
        | (go_at_call 109; refine C2.out.mono ?_; rintro e w2 ⟨rfl, hb⟩))
      go_ret
      exact ⟨by simp, hb⟩
    · have hq : (m == l) = false := by simpa using e
      go_enter Tryz.func177, Tryz.ntmps177
      go_wp2_with (first
        | (go_at_call 108; refine C1.out.mono ?_; rintro e w' ⟨rfl, rfl⟩)
        | (go_at_call 109; refine C2.out.mono ?_; rintro e w2 ⟨rfl, hb⟩))
      go_ret
      exact ⟨by rw [hq]; rfl, hb⟩
end Go.Proofs.YtndbhjgfaghelaaGreatDoor.Tx

/-
  CONTRACTS of both sides' TrimText: at every text each returns it without the blanks at its beginning and its end; nothing that was there before is changed.
-/
namespace Go.Proofs.YtndbhjgfaghelaaGreatDoor.Tx
open Go Go.RowKit
set_option linter.unusedVariables false
set_option maxRecDepth 1000000

theorem impl_trim (s : ByteArray) (w : World) (hs : s.size ≤ 9223372036854775807) :
    Calls Tryz.prog 154 #[.string s] w fun e w' => e = .returned (.string ⟨(trim s.data.toList).toArray⟩) ∧ Below w.heap.size w w' := by
  have hcon := Tryz.strings_Trim_laid s ⟨#[32, 9]⟩ w hs (by decide) (ascii_of_all (by decide))
  change Calls Tryz.prog 169 _ _ (fun e w' => e = .returned (.string ⟨(Lib.trimS s.data.toList [32, 9]).toArray⟩) ∧ Below w.heap.size w w') at hcon
  rw [trim_set] at hcon
  generalize (⟨(trim s.data.toList).toArray⟩ : ByteArray) = r at hcon ⊢
  go_enter Tryz.func154, Tryz.ntmps154
  go_wp2_with (go_at_call 169; refine hcon.mono ?_; rintro e w' ⟨rfl, hB⟩)
  go_ret
  exact ⟨rfl, hB⟩

def slen : Value → Nat
  | .string s => s.size
  | _ => 0
theorem ret_str {a b : List UInt8} (h : a = b) : Ending.returned (.string ⟨a.toArray⟩) = .returned (.string ⟨b.toArray⟩) := by rw [h]
theorem blank_yes (c : UInt8) (h : blk c = true) (w : World) : Calls Tryz.prog 213 #[.int .u8 (c.toNat : Int)] w fun e w' => e = .returned (.bool true) ∧ w = w' := by
  have : c = 32 ∨ c = 9 := by unfold blk at h; simpa using h
  rcases this with rfl | rfl
  all_goals
    go_enter Tryz.func213, Tryz.ntmps213
    go_wp2
    go_ret
    exact ⟨rfl, rfl⟩
theorem blank_no (c : UInt8) (h : blk c = false) (w : World) : Calls Tryz.prog 213 #[.int .u8 (c.toNat : Int)] w fun e w' => e = .returned (.bool false) ∧ w = w' := by
  have h1 : ((c.toNat : Int) == 32) = false := by
    rw [beq_eq_false_iff_ne]; intro e
    have : c = 32 := UInt8.toNat_inj.1 (by simp; omega)
    subst this; revert h; decide
  have h2 : ((c.toNat : Int) == 9) = false := by
    rw [beq_eq_false_iff_ne]; intro e
    have : c = 9 := UInt8.toNat_inj.1 (by simp; omega)
    subst this; revert h; decide
  clear h
  go_enter Tryz.func213, Tryz.ntmps213
  go_wp2
  go_ret
  exact ⟨rfl, rfl⟩

theorem empty_eq {x : ByteArray} (h : x.size = 0) : x.data.toList = [] := List.eq_nil_of_length_eq_zero (by rw [Array.length_toList]; exact h)
theorem ret_trim {x : ByteArray} {a : List UInt8} (h : [] = a) (hx : x.data.toList = []) : Ending.returned (.string x) = .returned (.string ⟨a.toArray⟩) := by
  subst h
  have : x = ⟨#[]⟩ := by
    have : x.data = #[] := by simpa using hx
    cases x; simp_all
  rw [this]
theorem ret_bytes {x : ByteArray} {a : List UInt8} (h : x.data.toList = a) : Ending.returned (.string x) = .returned (.string ⟨a.toArray⟩) := by subst h; simp
theorem cut_front {x : ByteArray} {n : Nat} (h : n ≤ x.size) : (x.extract 0 n).data.toList = x.data.toList.take n := by simp
theorem cut_size {x : ByteArray} {n : Nat} (h : n ≤ x.size) : (x.extract 0 n).size = n := by simp; omega
theorem cut_one (c : UInt8) (r : List UInt8) : Value.string ((⟨(c :: r).toArray⟩ : ByteArray).extract 1 (r.length + 1)) = .string ⟨r.toArray⟩ := by
  congr 1
  have : ((⟨(c :: r).toArray⟩ : ByteArray).extract 1 (r.length + 1)).data = r.toArray := by simp
  exact ByteArray.ext this
theorem last_split {x : ByteArray} {n : Nat} (hn : x.size = n + 1) (h : n < x.size) : x.data.toList = x.data.toList.take n ++ [x[n]] := by
  have e : x.data.toList.take (n + 1) = x.data.toList := List.take_of_length_le (by rw [Array.length_toList]; have : x.data.size = x.size := rfl; omega)
  have s := List.take_succ_eq_append_getElem (l := x.data.toList) (i := n) (by rw [Array.length_toList]; exact h)
  rw [e] at s
  exact s
theorem last_no {x : ByteArray} {n : Nat} (hn : x.size = n + 1) (h : n < x.size) (hb : blk x[n] = false) : trimr x.data.toList = x.data.toList := by
  rw [last_split hn h]; exact trimr_snoc_no hb
theorem last_yes {x : ByteArray} {n : Nat} (hn : x.size = n + 1) (h : n < x.size) (hb : blk x[n] = true) : trimr x.data.toList = trimr (x.data.toList.take n) := by
  conv => lhs; rw [last_split hn h]
  exact trimr_snoc_blk hb

set_option maxHeartbeats 1000000 in
theorem spec_trim (s : ByteArray) (w : World) (hs : s.size ≤ 9223372036854775806) :
    Calls Tryz.prog 162 #[.string s] w fun e w' => e = .returned (.string ⟨(trim s.data.toList).toArray⟩) ∧ w = w' := by
  obtain ⟨l, rfl⟩ : ∃ l : List UInt8, s = ⟨l.toArray⟩ := ⟨s.data.toList, by simp⟩
  show Calls _ _ _ _ (fun e w' => e = .returned (.string ⟨(trim l).toArray⟩) ∧ w = w')
  have hl : l.length ≤ 9223372036854775806 := hs
  clear hs
  go_enter Tryz.func162, Tryz.ntmps162
  go_wp2
  go_loop [0] (fun t => ∃ m : List UInt8, t = .string ⟨m.toArray⟩ ∧ triml m = triml l ∧ m.length ≤ l.length) (fun t => slen t)
  case atStart => exact ⟨l, rfl, rfl, Nat.le_refl _⟩
  case round =>
    obtain ⟨m, rfl, hm, hml⟩ := hrel
    have HM := Lib.hid hm
    clear hm
    cases m with
    | nil =>
      have HT : Hid (trimr [] = trim l) := Lib.hid (by rw [← trimr_triml, ← HM.out]; rfl)
      go_wp2
      go_loop [0] (fun t => ∃ x : ByteArray, t = .string x ∧ trimr x.data.toList = trim l ∧ x.size ≤ l.length) (fun t => slen t)
      case atStart => exact ⟨_, rfl, HT.out, hml⟩
      case round =>
        clear HT HM
        obtain ⟨x, rfl, hm, hml2⟩ := hrel
        have HM := Lib.hid hm
        clear hm
        rcases Nat.eq_zero_or_pos x.size with h0 | h0
        · have HE := Lib.hid (empty_eq h0)
          go_wp2
          go_ret
          exact ⟨ret_trim (by rw [← HM.out, HE.out]; rfl) HE.out, rfl⟩
        · obtain ⟨n, hn⟩ : ∃ n, x.size = n + 1 := ⟨x.size - 1, by omega⟩
          have hxn : n < x.size := by omega
          rcases hb2 : blk x[n] with _ | _
          · have c3 := blank_no x[n] hb2
            have HT := Lib.hid ((last_no hn hxn hb2).symm.trans HM.out)
            go_wp2_with (go_at_call 213; refine (c3 _).mono ?_; rintro e w' ⟨rfl, rfl⟩)
            go_ret
            exact ⟨ret_bytes HT.out, rfl⟩
          · have c3 := blank_yes x[n] hb2
            have HT := Lib.hid ((last_yes hn hxn hb2).symm.trans HM.out)
            go_wp2_with (go_at_call 213; refine (c3 _).mono ?_; rintro e w' ⟨rfl, rfl⟩)
            go_round
            case rel => exact ⟨x.extract 0 n, rfl, by rw [cut_front (by omega)]; exact HT.out, by rw [cut_size (by omega)]; omega⟩
            case measure => simp [slen]; omega
    | cons c r =>
      rcases hb : blk c with _ | _
      · have c1 := blank_no c hb
        have HT : Hid (trimr (c :: r) = trim l) := Lib.hid (by rw [← trimr_triml, ← HM.out, triml_cons_no hb])
        go_wp2_with (go_at_call 213; refine (c1 _).mono ?_; rintro e w' ⟨rfl, rfl⟩)
        go_loop [0] (fun t => ∃ x : ByteArray, t = .string x ∧ trimr x.data.toList = trim l ∧ x.size ≤ l.length) (fun t => slen t)
        case atStart => exact ⟨_, rfl, HT.out, hml⟩
        case round =>
          clear HT HM
          obtain ⟨x, rfl, hm, hml2⟩ := hrel
          have HM := Lib.hid hm
          clear hm
          rcases Nat.eq_zero_or_pos x.size with h0 | h0
          · have HE := Lib.hid (empty_eq h0)
            go_wp2
            go_ret
            exact ⟨ret_trim (by rw [← HM.out, HE.out]; rfl) HE.out, rfl⟩
          · obtain ⟨n, hn⟩ : ∃ n, x.size = n + 1 := ⟨x.size - 1, by omega⟩
            have hxn : n < x.size := by omega
            rcases hb2 : blk x[n] with _ | _
            · have c3 := blank_no x[n] hb2
              have HT := Lib.hid ((last_no hn hxn hb2).symm.trans HM.out)
              go_wp2_with (go_at_call 213; refine (c3 _).mono ?_; rintro e w' ⟨rfl, rfl⟩)
              go_ret
              exact ⟨ret_bytes HT.out, rfl⟩
            · have c3 := blank_yes x[n] hb2
              have HT := Lib.hid ((last_yes hn hxn hb2).symm.trans HM.out)
              go_wp2_with (go_at_call 213; refine (c3 _).mono ?_; rintro e w' ⟨rfl, rfl⟩)
              go_round
              case rel => exact ⟨x.extract 0 n, rfl, by rw [cut_front (by omega)]; exact HT.out, by rw [cut_size (by omega)]; omega⟩
              case measure => simp [slen]; omega
      · have c1 := blank_yes c hb
        have HT := Lib.hid ((triml_cons_blk (l := r) hb).symm.trans HM.out)
        clear HM
        go_wp2_with (go_at_call 213; refine (c1 _).mono ?_; rintro e w' ⟨rfl, rfl⟩)
        go_round
        case rel => exact ⟨r, cut_one c r, HT.out, by simp at hml; omega⟩
        case measure => simp [slen, ByteArray.size]
end Go.Proofs.YtndbhjgfaghelaaGreatDoor.Tx

/-
  CONTRACTS of what is a field's value (the model's l5Value, the program's isFieldValue): at most 200 bytes, each of them a tab or one of 32 to 126, without blanks at its ends.
-/
namespace Go.Proofs.YtndbhjgfaghelaaGreatDoor.Tx
open Go Go.RowKit
set_option linter.unusedVariables false
set_option maxRecDepth 1000000

def okb (c : UInt8) : Bool := (decide (32 ≤ c.toNat) && decide (c.toNat ≤ 126)) || (c == 9)
def valOk (l : List UInt8) : Bool := l.all okb && (decide (l.length ≤ 200) && (trim l == l))
theorem okb_no {c : UInt8} (h : okb c = false) : ((c.toNat : Int) < 32 ∨ 126 < (c.toNat : Int)) ∧ (c.toNat : Int) ≠ 9 := by
  unfold okb at h
  rw [Bool.or_eq_false_iff] at h
  obtain ⟨h1, h2⟩ := h
  constructor
  · by_cases a : 32 ≤ c.toNat
    · right
      by_cases b : c.toNat ≤ 126
      · simp [a, b] at h1
      · omega
    · left; omega
  · intro e
    have : c = 9 := UInt8.toNat_inj.1 (by show c.toNat = 9; omega)
    rw [this] at h2; simp at h2
theorem okb_yes {c : UInt8} (h : okb c = true) : (32 ≤ (c.toNat : Int) ∧ (c.toNat : Int) ≤ 126) ∨ (¬ (32 ≤ (c.toNat : Int) ∧ (c.toNat : Int) ≤ 126) ∧ c = 9) := by
  unfold okb at h
  rw [Bool.or_eq_true] at h
  rcases h with h | h
  · rw [Bool.and_eq_true] at h
    have h1 := of_decide_eq_true h.1
    have h2 := of_decide_eq_true h.2
    left; omega
  · have e : c = 9 := by simpa using h
    subst e; right; exact ⟨by decide, rfl⟩
theorem okb_more {s : ByteArray} {k : Nat} (h : k < s.size) (ha : (s.data.toList.take k).all okb = true) (hc : okb s[k] = true) : (s.data.toList.take (k + 1)).all okb = true := by
  rw [take_snoc s k h, List.all_append, ha, List.all_cons, hc]; rfl
theorem val_bad {s : ByteArray} {k : Nat} (h : k < s.size) (hc : okb s[k] = false) : valOk s.data.toList = false := by
  unfold valOk
  have : s.data.toList.all okb = false := by
    rw [Bool.eq_false_iff]
    intro ha
    have hm : s[k] ∈ s.data.toList := by
      rw [← List.take_append_drop k s.data.toList, drop_cons s k h]; simp
    rw [List.all_eq_true] at ha
    have := ha _ hm
    rw [hc] at this; cases this
  rw [this, Bool.false_and]
theorem val_all {s : ByteArray} {k : Nat} (h : k = s.size) (ha : (s.data.toList.take k).all okb = true) : valOk s.data.toList = (decide (s.size ≤ 200) && (trim s.data.toList == s.data.toList)) := by
  have e : s.data.toList.take k = s.data.toList := List.take_of_length_le (by rw [list_len]; omega)
  rw [e] at ha
  unfold valOk
  rw [ha, Bool.true_and, list_len]

set_option maxHeartbeats 1000000 in
theorem spec_val (s : ByteArray) (w : World) (hs : s.size ≤ 1048576) :
    Calls Tryz.prog 114 #[.string s] w fun e w' => e = .returned (.bool (valOk s.data.toList)) ∧ w = w' := by
  have CT := Lib.hid (spec_trim s w (by omega))
  go_enter Tryz.func114, Tryz.ntmps114
  go_wp2
  go_loop [3] (fun i => ∃ k : Nat, k ≤ s.size ∧ i = .int .i64 k ∧ (s.data.toList.take k).all okb = true) (fun i => s.size - (intOf i).toNat)
  case atStart => exact ⟨0, Nat.zero_le _, rfl, rfl⟩
  case round =>
    obtain ⟨k, hk, rfl, ha⟩ := hrel
    have HA := Lib.hid ha
    clear ha
    by_cases hlt : k < s.size
    · have hb255 : (s[k].toNat : Int) ≤ 255 := by have := s[k].toNat_lt; omega
      rcases hc : okb s[k] with _ | _
      · have HT := Lib.hid (val_bad hlt hc)
        obtain ⟨q1, q2⟩ := okb_no hc
        have HQ := Lib.hid q1
        clear hc q1
        go_wp2_with (go_at_call 90; refine (NumDiv.in_no _ _ _ _ HQ.out).mono ?_; rintro e w' ⟨rfl, rfl⟩)
        go_ret
        exact ⟨ret_bool HT.out.symm, rfl⟩
      · have HT := Lib.hid (okb_more hlt HA.out hc)
        rcases okb_yes hc with ⟨q1, q2⟩ | ⟨q1, q2⟩
        · clear hc
          go_wp2_with (go_at_call 90; refine (NumDiv.in_yes _ _ _ _ q1 q2).mono ?_; rintro e w' ⟨rfl, rfl⟩)
          go_round
          case rel => exact ⟨k + 1, by omega, by go_num, HT.out⟩
          case measure => simp [intOf]; omega
        · have HQ := Lib.hid q1
          clear hc q1
          go_wp2_with (go_at_call 90; refine (NumDiv.in_no _ _ _ _ (by have := HQ.out; omega)).mono ?_; rintro e w' ⟨rfl, rfl⟩)
          go_round
          case rel => exact ⟨k + 1, by omega, by go_num, HT.out⟩
          case measure => simp [intOf]; omega
    · have HT := Lib.hid (val_all (show k = s.size by omega) HA.out)
      have hkk : k = s.size := by omega
      subst hkk
      clear HA hk
      obtain ⟨l, rfl⟩ : ∃ l : List UInt8, s = ⟨l.toArray⟩ := ⟨s.data.toList, rfl⟩
      have hsz : (⟨l.toArray⟩ : ByteArray).size = l.length := by simp [ByteArray.size]
      have HT' : Hid (valOk l = (decide (l.length ≤ 200) && (trim l == l))) := Lib.hid (by have h := HT.out; rw [hsz] at h; exact h)
      have CT' : Hid (Calls Tryz.prog 162 #[.string ⟨l.toArray⟩] w fun e w' => e = .returned (.string ⟨(trim l).toArray⟩) ∧ w = w') := Lib.hid CT.out
      have hs' : l.length ≤ 1048576 := by rw [hsz] at hs; exact hs
      clear HT CT hs
      rw [show (⟨l.toArray⟩ : ByteArray).data.toList = l from rfl]
      generalize trim l = m at HT' CT'
      by_cases h2 : l.length ≤ 200
      · by_cases e : m = l
        · subst e
          have HR : Hid (true = valOk m) := Lib.hid (by rw [HT'.out]; simp [h2])
          clear HT'
          go_wp2_with (go_at_call 162; refine CT'.out.mono ?_; rintro e w' ⟨rfl, rfl⟩)
          go_ret
          exact ⟨ret_bool HR.out, rfl⟩
        · have hq : (m == l) = false := by simpa using e
          have HR : Hid (false = valOk l) := Lib.hid (by rw [HT'.out, hq, Bool.and_false])
          clear HT'
          go_wp2_with (go_at_call 162; refine CT'.out.mono ?_; rintro e w' ⟨rfl, rfl⟩)
          go_ret
          exact ⟨ret_bool HR.out, rfl⟩
      · have HR : Hid (false = valOk l) := Lib.hid (by rw [HT'.out]; simp [h2])
        clear HT' CT'
        go_wp2
        go_ret
        exact ⟨ret_bool HR.out, rfl⟩

set_option maxHeartbeats 1000000 in
theorem impl_val (l : List UInt8) (w : World) (hs : l.length ≤ 1048576) :
    Calls Tryz.prog 124 #[.string ⟨l.toArray⟩] w fun e w' => e = .returned (.bool (valOk l)) ∧ Below w.heap.size w w' := by
  have hsz : (⟨l.toArray⟩ : ByteArray).size = l.length := by simp [ByteArray.size]
  have CT : Hid (Calls Tryz.prog 154 #[.string ⟨l.toArray⟩] w fun e w' => e = .returned (.string ⟨(trim l).toArray⟩) ∧ Below w.heap.size w w') := Lib.hid (impl_trim ⟨l.toArray⟩ w (by rw [hsz]; omega))
  have HV : Hid (valOk l = (l.all okb && (decide (l.length ≤ 200) && (trim l == l)))) := Lib.hid rfl
  generalize trim l = m at CT HV
  by_cases h2 : l.length ≤ 200
  · by_cases e : m = l
    · subst e
      have HV2 : Hid (valOk m = m.all okb) := Lib.hid (by rw [HV.out]; simp [h2])
      clear HV
      obtain ⟨s, hse⟩ : ∃ s : ByteArray, s = ⟨m.toArray⟩ := ⟨_, rfl⟩
      have HM : Hid (s.data.toList = m) := Lib.hid (by rw [hse])
      have hs2 : s.size ≤ 200 := by rw [hse, hsz]; exact h2
      rw [← hse] at CT ⊢
      clear hse hsz hs h2
      go_enter Tryz.func124, Tryz.ntmps124
      go_wp2_with (fail)
      go_at_call 154
      refine CT.out.mono ?_
      rintro e w' ⟨rfl, hb⟩
      have HB := Lib.hid hb
      clear hb CT
      go_wp2
      go_loop [15] (fun i => ∃ k : Nat, k ≤ s.size ∧ i = .int .i64 k ∧ (s.data.toList.take k).all okb = true) (fun i => s.size - (intOf i).toNat)
      case atStart => exact ⟨0, Nat.zero_le _, rfl, rfl⟩
      case round =>
        obtain ⟨k, hk, rfl, ha⟩ := hrel
        have HA := Lib.hid ha
        clear ha
        by_cases hlt : k < s.size
        · have hb255 : (s[k].toNat : Int) ≤ 255 := by have := s[k].toNat_lt; omega
          rcases hc : okb s[k] with _ | _
          · have HT : Hid (false = valOk m) := Lib.hid (by rw [HV2.out, ← HM.out]; symm; rw [Bool.eq_false_iff]; intro ha; have hm : s[k] ∈ s.data.toList := by (rw [← List.take_append_drop k s.data.toList, drop_cons s k hlt]; simp)
                                                           rw [List.all_eq_true] at ha; have := ha _ hm; rw [hc] at this; cases this)
            obtain ⟨q1, q2⟩ := okb_no hc
            clear hc
            rcases q1 with q1 | q1
            · go_wp2
              go_ret
              exact ⟨ret_bool HT.out, HB.out⟩
            · have q3 : ¬ (s[k].toNat : Int) < 32 := by omega
              go_wp2
              go_ret
              exact ⟨ret_bool HT.out, HB.out⟩
          · have HT := Lib.hid (okb_more hlt HA.out hc)
            rcases okb_yes hc with ⟨q1, q2⟩ | ⟨q1, q2⟩
            · have q3 : ¬ (s[k].toNat : Int) < 32 := by omega
              have q4 : ¬ 126 < (s[k].toNat : Int) := by omega
              clear hc
              go_wp2
              go_round
              case rel => exact ⟨k + 1, by omega, by go_num, HT.out⟩
              case measure => simp [intOf]; omega
            · clear hc q1
              go_wp2
              go_round
              case rel => exact ⟨k + 1, by omega, by go_num, HT.out⟩
              case measure => simp [intOf]; omega
        · have HT : Hid (true = valOk m) := Lib.hid (by have h := HA.out; rw [List.take_of_length_le (by rw [list_len]; omega), HM.out] at h; rw [HV2.out, h])
          go_wp2
          go_ret
          exact ⟨ret_bool HT.out, HB.out⟩
    · have hq : (m == l) = false := by simpa using e
      have HR : Hid (false = valOk l) := Lib.hid (by rw [HV.out, hq, Bool.and_false, Bool.and_false])
      clear HV
      go_enter Tryz.func124, Tryz.ntmps124
      go_wp2_with (fail)
      go_at_call 154
      refine CT.out.mono ?_
      rintro e w' ⟨rfl, hb⟩
      go_wp2
      go_ret
      exact ⟨ret_bool HR.out, hb⟩
  · have HR : Hid (false = valOk l) := Lib.hid (by rw [HV.out]; simp [h2])
    clear HV CT
    go_enter Tryz.func124, Tryz.ntmps124
    go_wp2
    go_ret
    exact ⟨ret_bool HR.out, Below.refl _ _⟩
end Go.Proofs.YtndbhjgfaghelaaGreatDoor.Tx

/-
  PLAIN FACTS on slices of structs whose fields are one cell each, whatever the struct ('cs a': the cells of a; n: how many; z: the zero): what a slice holds, how that is kept, how a slice that the call itself has built is such a one, and how its places are filled.
-/
namespace Go.Proofs.YtndbhjgfaghelaaGreatDoor.Rec
open Go Go.RowKit
set_option linter.unusedVariables false
set_option maxRecDepth 1000000

def flat {α : Type} (cs : α → List Value) (l : List α) : List Value := l.flatMap cs
/-- Values set one behind the other, from place o on. -/
def put (xs : List Value) (o : Nat) : List Value → List Value
  | [] => xs
  | u :: us => put (xs.set o u) (o + 1) us
theorem put_right (xs ys us : List Value) (o : Nat) : put (xs ++ ys) (xs.length + o) us = xs ++ put ys o us := by
  induction us generalizing ys o with
  | nil => rfl
  | cons u us ih =>
    show put ((xs ++ ys).set (xs.length + o) u) (xs.length + o + 1) us = xs ++ put (ys.set o u) (o + 1) us
    rw [List.set_append_right _ _ (by omega), show xs.length + o - xs.length = o by omega, Nat.add_assoc, ih]
theorem put_full (bs ys us : List Value) (h : us.length = bs.length) : put (bs ++ ys) 0 us = us ++ ys := by
  induction us generalizing bs with
  | nil => have : bs = [] := List.eq_nil_of_length_eq_zero h.symm; subst this; rfl
  | cons u us ih =>
    cases bs with
    | nil => simp at h
    | cons b bs =>
      show put (u :: (bs ++ ys)) (0 + 1) us = u :: us ++ ys
      have h1 := put_right [u] (bs ++ ys) us 0
      simp only [List.length_singleton, List.cons_append, List.nil_append] at h1
      rw [show (0 + 1 : Nat) = 1 + 0 by rfl, h1, ih bs (by simpa using h)]; rfl

section
variable {α : Type} {n : Nat} {cs : α → List Value} {z : α}
theorem flat_len (hl : ∀ a, (cs a).length = n) (l : List α) : (flat cs l).length = l.length * n := by
  unfold flat
  induction l with
  | nil => simp
  | cons a r ih => rw [List.flatMap_cons, List.length_append, ih, hl, List.length_cons, Nat.succ_mul]; omega
theorem flat_more (l : List α) (a : α) : flat cs (l ++ [a]) = flat cs l ++ cs a := by unfold flat; simp
theorem flat_append (l r : List α) : flat cs (l ++ r) = flat cs l ++ flat cs r := by unfold flat; simp
theorem flat_at (hl : ∀ a, (cs a).length = n) {l : List α} {j i : Nat} {u : Value} (h : j < l.length) (hu : (cs (l.getD j z))[i]? = some u) : (flat cs l)[j * n + i]? = some u := by
  unfold flat
  induction l generalizing j with
  | nil => simp at h
  | cons a r ih =>
    cases j with
    | zero =>
      have hu' : (cs a)[i]? = some u := hu
      rw [List.flatMap_cons, Nat.zero_mul, Nat.zero_add, List.getElem?_append_left (by exact (List.getElem?_eq_some_iff.1 hu').1)]
      exact hu'
    | succ j =>
      rw [List.flatMap_cons, List.getElem?_append_right (by rw [hl, Nat.succ_mul]; omega), hl, show (j + 1) * n + i - n = j * n + i by rw [Nat.succ_mul]; omega]
      exact ih (by simpa using h) hu
theorem flat_one (h1 : ∀ a, ∀ u ∈ cs a, u.oneCell' = true) (l : List α) : ∀ u ∈ flat cs l, u.oneCell' = true := by
  intro u hu
  obtain ⟨f, _, hf⟩ := List.mem_flatMap.1 hu
  exact h1 f u hf
/-- All cells of one place are set. -/
theorem flat_put (hl : ∀ a, (cs a).length = n) {l : List α} {k : Nat} (a : α) (h : k < l.length) : put (flat cs l) (k * n) (cs a) = flat cs (l.set k a) := by
  induction l generalizing k with
  | nil => simp at h
  | cons b r ih =>
    cases k with
    | zero =>
      show put (cs b ++ flat cs r) (0 * n) (cs a) = cs a ++ flat cs r
      rw [Nat.zero_mul, put_full _ _ _ (by rw [hl, hl])]
    | succ k =>
      show put (cs b ++ flat cs r) ((k + 1) * n) (cs a) = cs b ++ flat cs (r.set k a)
      rw [show (k + 1) * n = (cs b).length + k * n by rw [hl, Nat.succ_mul]; omega, put_right, ih (by simpa using h)]

/-- The cells from (b, off) on are these structs. -/
def At (n : Nat) (cs : α → List Value) (z : α) (w : World) (b off : Nat) (l : List α) : Prop := ∀ j, j < l.length → ∀ i u, (cs (l.getD j z))[i]? = some u → w.cell? ⟨b, off + j * n + i, none⟩ = some u
/-- The slice v reads as the structs l; its cells lie below block B. -/
def Holds (n : Nat) (cs : α → List Value) (z : α) (w : World) (B : Nat) (v : Value) (l : List α) : Prop := (l = [] ∧ ∃ a cap, v = .slice a 0 cap) ∨ (0 < l.length ∧ ∃ b off cap, v = .slice (some ⟨b, off, none⟩) l.length cap ∧ b < B ∧ l.length ≤ cap ∧ At n cs z w b off l)
theorem lt_of_cell {w : World} {b o : Nat} {u : Value} (h : w.cell? ⟨b, o, none⟩ = some u) : b < w.heap.size := by
  rcases Nat.lt_or_ge b w.heap.size with h' | h'
  · exact h'
  · simp [World.cell?, Array.getElem?_eq_none h'] at h
theorem at_lt (hl : ∀ a, (cs a).length = n) (hn : 0 < n) {w : World} {b off : Nat} {l : List α} (h : At n cs z w b off l) (h0 : 0 < l.length) : b < w.heap.size := by
  have h1 : 0 < (cs (l.getD 0 z)).length := by rw [hl]; exact hn
  exact lt_of_cell (h 0 h0 0 _ (List.getElem?_eq_getElem h1))
theorem at_below {w w' : World} {B b off : Nat} {l : List α} (h : At n cs z w b off l) (hb : Below B w w') (hlt : b < B) : At n cs z w' b off l := fun j hj i u hu => by
  rw [hb.cell (p := ⟨b, off + j * n + i, none⟩) hlt]; exact h j hj i u hu
theorem holds_more {w : World} {B B' : Nat} {v : Value} {l : List α} (h : Holds n cs z w B v l) (hB : B ≤ B') : Holds n cs z w B' v l := by
  rcases h with h | ⟨h0, b, off, cap, rfl, h2, hc, h1⟩
  · exact Or.inl h
  · exact Or.inr ⟨h0, b, off, cap, rfl, by omega, hc, h1⟩
theorem holds_below {w w' : World} {B : Nat} {v : Value} {l : List α} (h : Holds n cs z w B v l) (hb : Below B w w') : Holds n cs z w' B v l := by
  rcases h with h | ⟨h0, b, off, cap, rfl, hB, hc, h1⟩
  · exact Or.inl h
  · exact Or.inr ⟨h0, b, off, cap, rfl, hB, hc, at_below h1 hb hB⟩
theorem holds_grown {w w' : World} {B : Nat} {v : Value} {l : List α} {row : Option Nat} (h : Holds n cs z w B v l) (hg : w.grownBy w' row) (hr : ∀ k, row = some k → B ≤ k) : Holds n cs z w' B v l := by
  rcases h with h | ⟨h0, b, off, cap, rfl, hB, hc, h1⟩
  · exact Or.inl h
  · exact Or.inr ⟨h0, b, off, cap, rfl, hB, hc, fun j hj i u hu => hg.cell (h1 j hj i u hu) (fun e => by have := hr b e.symm; omega)⟩
theorem own_len (hl : ∀ a, (cs a).length = n) (hn : 0 < n) {w : World} {B : Nat} {T : TypeId} {v : Value} {l : List α} {m : Nat} (h : w.ownsRow B T n v m (flat cs l)) : m = l.length := by
  have := h.1; rw [flat_len hl] at this; exact (Nat.eq_of_mul_eq_mul_right hn this).symm
theorem own_cell (hl : ∀ a, (cs a).length = n) (hn : 0 < n) {w : World} {B g cap : Nat} {T : TypeId} {l : List α} {m : Nat} (h : w.ownsRow B T n (.slice (some ⟨g, 0, none⟩) m cap) m (flat cs l)) {j i : Nat} {u : Value} (hj : j < m) (hu : (cs (l.getD j z))[i]? = some u) : w.cell? ⟨g, j * n + i, none⟩ = some u := by
  have hm := own_len hl hn h
  have h1 := h.cells (g := g) rfl _ _ (flat_at hl (z := z) (l := l) (j := j) (i := i) (u := u) (by omega) hu)
  simpa only [WideShapes.add_plain, Nat.zero_add] using h1
theorem own_holds (hl : ∀ a, (cs a).length = n) (hn : 0 < n) {w : World} {B : Nat} {T : TypeId} {v : Value} {l : List α} (h : w.ownsRow B T n v l.length (flat cs l)) : Holds n cs z w w.heap.size v l := by
  have h' := h
  obtain ⟨hlen, hc⟩ := h
  rcases hc with ⟨rfl, h0⟩ | ⟨g, cap, cur, rfl, hb, hg, hm, hcap, hs, ht⟩
  · exact Or.inl ⟨List.eq_nil_of_length_eq_zero h0, _, _, rfl⟩
  · by_cases h0 : l = []
    · subst h0; exact Or.inl ⟨rfl, _, _, rfl⟩
    · refine Or.inr ⟨List.length_pos_iff.2 h0, g, 0, cap, rfl, (h'.lt g rfl).2, hm, fun j hj i u hu => ?_⟩
      rw [Nat.zero_add]; exact own_cell hl hn h' hj hu
theorem own_mono {w : World} {B B' : Nat} {T : TypeId} {v : Value} {m : Nat} {xs : List Value} (h : w.ownsRow B T n v m xs) (hB : B' ≤ B) : w.ownsRow B' T n v m xs := by
  obtain ⟨hl, hc⟩ := h
  refine ⟨hl, ?_⟩
  rcases hc with h0 | ⟨g, cap, cur, rfl, h1, h2, h3⟩
  · exact Or.inl h0
  · exact Or.inr ⟨g, cap, cur, rfl, by omega, h2, h3⟩
/-- One more struct behind a slice that the call has built. -/
theorem push_own {B : Nat} {T : TypeId} {a w w1 : World} {v v' : Value} {l : List α} {f : α} {o : Obj} (hown : w.ownsRow B T n v l.length (flat cs l)) (hb : Below a.heap.size a w) (hB : a.heap.size ≤ B)
    (h' : w1.ownsRow B T n v' (l.length + 1) (flat cs l ++ cs f)) (hg : (w.alloc o).grownBy w1 v.ownBlock) :
    w1.ownsRow B T n v' (l ++ [f]).length (flat cs (l ++ [f])) ∧ Below a.heap.size a w1 := by
  refine ⟨by rw [List.length_append, flat_more]; exact h', (hb.alloc hb.size o).grown hg (by have := hb.size; simp; omega) (fun k e => Nat.le_trans hB (hown.lt k e).1)⟩
theorem own_lit_nil (w : World) (T : TypeId) : (w.alloc (.cells #[] T)).ownsRow w.heap.size T n (.slice (some ⟨w.heap.size, 0, none⟩) 0 0) ([] : List α).length (flat cs []) := World.ownsRow_lit w #[] 0 (Nat.le_refl _) (by decide) (by simp)

/-- A list of which k places are filled. -/
def part (z : α) (l : List α) (k : Nat) : List α := l.take k ++ List.replicate (l.length - k) z
theorem part_len (l : List α) {k : Nat} (h : k ≤ l.length) : (part z l k).length = l.length := by
  unfold part; rw [List.length_append, List.length_take, List.length_replicate]; omega
theorem part_zero (l : List α) : part z l 0 = List.replicate l.length z := by unfold part; simp
theorem part_all (l : List α) : part z l l.length = l := by unfold part; simp
theorem part_more {l : List α} {k : Nat} (h : k < l.length) : (part z l k).set k (l.getD k z) = part z l (k + 1) := by
  unfold part
  rw [List.set_append_right _ _ (by rw [List.length_take]; omega), List.length_take, show k - min k l.length = 0 by omega,
    show l.length - k = (l.length - (k + 1)) + 1 by omega, List.replicate_succ, List.set_cons_zero, List.take_succ_eq_append_getElem h, List.append_assoc]
  simp [List.getD, h]
theorem made_flat (hl : ∀ a, (cs a).length = n) (hn : 0 < n) (m : Nat) (zc : Array Value) (hz : zc.toList = cs z) : (madeCells zc (m * n)).toList = flat cs (List.replicate m z) := by
  apply List.ext_getElem?
  intro q
  have hsz : zc.size = n := by rw [← Array.length_toList, hz, hl]
  by_cases hq : q < m * n
  · have hj : q / n < m := (Nat.div_lt_iff_lt_mul hn).2 hq
    have hi : q % n < n := Nat.mod_lt _ hn
    have hu : (cs ((List.replicate m z).getD (q / n) z))[q % n]? = some ((cs z)[q % n]'(by rw [hl]; exact hi)) := by
      rw [show (List.replicate m z).getD (q / n) z = z by simp [List.getD, List.getElem?_replicate, hj]]
      exact List.getElem?_eq_getElem _
    have h1 := flat_at hl (z := z) (l := List.replicate m z) (j := q / n) (by rw [List.length_replicate]; exact hj) hu
    rw [Nat.mul_comm, Nat.div_add_mod] at h1
    rw [h1]
    unfold madeCells
    rw [Array.toList_map, List.getElem?_map, Array.toList_range, List.getElem?_range hq]
    have hi2 : q % n < zc.size := by omega
    have hqs : q % zc.size = q % n := by rw [hsz]
    have e2 : zc[q % zc.size]! = zc[q % n]'hi2 := by rw [hqs]; exact getElem!_pos zc (q % n) hi2
    show some (zc[q % zc.size]!) = _
    rw [e2]
    congr 1
    rw [← Array.getElem_toList]
    simp only [hz]
  · rw [List.getElem?_eq_none (by rw [Array.length_toList, size_madeCells]; omega), List.getElem?_eq_none (by rw [flat_len hl, List.length_replicate]; omega)]
theorem made_part (hl : ∀ a, (cs a).length = n) (hn : 0 < n) (l : List α) (zc : Array Value) (hz : zc.toList = cs z) : (madeCells zc (l.length * n)).toList = flat cs (part z l 0) := by
  rw [part_zero]; exact made_flat hl hn l.length zc hz
end
section
variable {α : Type} {z : α}
/-- The size of a list of structs: its texts' lengths and its own. -/
def total (wt : α → Nat) (l : List α) : Nat := (l.map wt).sum + l.length
def pre (wt : α → Nat) (l : List α) (k : Nat) : Nat := ((l.take k).map wt).sum
theorem total_nil (wt : α → Nat) : total wt [] = 0 := rfl
theorem len_le_total (wt : α → Nat) (l : List α) : l.length ≤ total wt l := by unfold total; omega
theorem mem_total (wt : α → Nat) {l : List α} {f : α} (h : f ∈ l) : wt f ≤ total wt l := by
  unfold total
  induction l with
  | nil => cases h
  | cons a r ih =>
    simp only [List.map_cons, List.sum_cons, List.length_cons]
    rcases List.mem_cons.1 h with rfl | h
    · omega
    · have := ih h; omega
theorem total_plain (l : List α) : total (fun _ => 0) l = l.length := by
  unfold total
  have : (l.map fun _ => 0).sum = 0 := by induction l with
    | nil => rfl
    | cons a r ih => simpa using ih
  omega
theorem pre_zero (wt : α → Nat) (l : List α) : pre wt l 0 = 0 := by unfold pre; simp
theorem pre_more (wt : α → Nat) {l : List α} {k : Nat} (h : k < l.length) : pre wt l (k + 1) = pre wt l k + wt (l.getD k z) := by
  unfold pre; rw [List.take_succ_eq_append_getElem h, List.map_append, List.sum_append]; simp [List.getD, h]
theorem pre_all (wt : α → Nat) {l : List α} {k : Nat} (h : k = l.length) : total wt l = pre wt l k + l.length := by unfold pre total; subst h; simp
theorem getD_mem {l : List α} {k : Nat} (h : k < l.length) : l.getD k z ∈ l := by
  rw [show l.getD k z = l[k] by simp [List.getD, h]]; exact List.getElem_mem _

/-- A list whose first j places are what mk says of their index. -/
def mkl (mk : Nat → α) (m : Nat) : List α := (List.range m).map mk
def mks (mk : Nat → α) (l : List α) (j : Nat) : List α := mkl mk j ++ l.drop j
theorem mkl_len (mk : Nat → α) (m : Nat) : (mkl mk m).length = m := by unfold mkl; simp
theorem mkl_at (mk : Nat → α) {m j : Nat} (h : j < m) : (mkl mk m).getD j z = mk j := by unfold mkl; simp [List.getD, h]
theorem mks_zero (mk : Nat → α) (l : List α) : mks mk l 0 = l := by unfold mks mkl; simp
theorem mks_len (mk : Nat → α) {l : List α} {j : Nat} (h : j ≤ l.length) : (mks mk l j).length = l.length := by unfold mks; rw [List.length_append, mkl_len, List.length_drop]; omega
theorem mks_more (mk : Nat → α) {l : List α} {j : Nat} (h : j < l.length) : (mks mk l j).set j (mk j) = mks mk l (j + 1) := by
  unfold mks
  rw [List.set_append_right _ _ (by rw [mkl_len]; exact Nat.le_refl _), mkl_len, Nat.sub_self, List.drop_eq_getElem_cons h, List.set_cons_zero]
  unfold mkl
  rw [List.range_succ, List.map_append, List.append_assoc]; rfl
theorem mks_all (mk : Nat → α) {l : List α} {j : Nat} (h : j = l.length) : mks mk l j = mkl mk l.length := by unfold mks; subst h; simp
end
/-- What is put into place k of a list that is filled from the left. -/
theorem text_of (s : ByteArray) : (Value.string s) = .string ⟨s.data.toList.toArray⟩ := by simp
/-- A struct that stands in a block of its own, as what is put behind a slice. -/
theorem news (w : World) (cs : List Value) (T : TypeId) : ∀ j u, cs[j]? = some u → (w.alloc (.cells cs.toArray T)).cell? ((⟨w.heap.size, 0, none⟩ : Addr).add j) = some u := by
  intro j u hj
  rw [WideShapes.add_plain, Nat.zero_add, World.cell?_alloc_new]
  simpa using hj
/-- What the call has built is kept by what only adds. -/
theorem row_below {w w' : World} {B m : Nat} {T : TypeId} {sz : Nat} {v : Value} {xs : List Value} (h : w.ownsRow B T sz v m xs) (hb : Below w.heap.size w w') : w'.ownsRow B T sz v m xs := by
  obtain ⟨hl, hc⟩ := h
  refine ⟨hl, ?_⟩
  rcases hc with h0 | ⟨g, cap, cur, rfl, h1, h2, h3⟩
  · exact Or.inl h0
  · have hlt : g < w.heap.size := by
      rcases Nat.lt_or_ge g w.heap.size with h' | h'
      · exact h'
      · rw [Array.getElem?_eq_none h'] at h2; cases h2
    exact Or.inr ⟨g, cap, cur, rfl, h1, by rw [hb.block g hlt]; exact h2, h3⟩
theorem row_grown {w w' : World} {B m : Nat} {T : TypeId} {sz : Nat} {v : Value} {xs : List Value} {row : Option Nat} (h : w.ownsRow B T sz v m xs) (hg : w.grownBy w' row) (hr : ∀ g, v.ownBlock = some g → some g ≠ row) : w'.ownsRow B T sz v m xs := by
  obtain ⟨hl, hc⟩ := h
  refine ⟨hl, ?_⟩
  rcases hc with h0 | ⟨g, cap, cur, rfl, h1, h2, h3⟩
  · exact Or.inl h0
  · have hlt : g < w.heap.size := by
      rcases Nat.lt_or_ge g w.heap.size with h' | h'
      · exact h'
      · rw [Array.getElem?_eq_none h'] at h2; cases h2
    exact Or.inr ⟨g, cap, cur, rfl, h1, by rw [hg.block g hlt (hr g rfl)]; exact h2, h3⟩
theorem row_apart {w : World} {B B' n n' : Nat} {T T' : TypeId} {sz sz' : Nat} {v v' : Value} {xs xs' : List Value} (h : w.ownsRow B T sz v n xs) (h' : w.ownsRow B' T' sz' v' n' xs') (hT : T ≠ T') : ∀ g, v.ownBlock = some g → some g ≠ v'.ownBlock := by
  intro g hg hg'
  rcases h.2 with ⟨rfl, _⟩ | ⟨a, cap, cur, rfl, _, h2, _⟩
  · cases hg
  · rcases h'.2 with ⟨rfl, _⟩ | ⟨a', cap', cur', rfl, _, h2', _⟩
    · cases hg'
    · cases hg; cases hg'
      rw [h2] at h2'
      simp at h2'
      exact hT h2'.2
/-- What the call has built is kept where a cell of a younger block is written. -/
theorem own_set {w : World} {B n g : Nat} {T : TypeId} {sz : Nat} {v : Value} {xs : List Value} (h : w.ownsRow B T sz v n xs) (hlt : ∀ k, v.ownBlock = some k → k < g) (o : Nat) (u : Value) : (w.setCell ⟨g, o, none⟩ u).ownsRow B T sz v n xs :=
  ownsRow_setCell_other h (fun e => by have := hlt g e; omega) u
theorem grown_trans {a b c : World} {row : Option Nat} (h : a.grownBy b row) (k : b.grownBy c row) : a.grownBy c row := ⟨k.os.trans h.os, k.tape.trans h.tape, k.output.trans h.output, Nat.le_trans h.size k.size, fun i hi hr => (k.block i (Nat.lt_of_lt_of_le hi h.size) hr).trans (h.block i hi hr)⟩
theorem grown_of_below {a b : World} {row : Option Nat} (h : Below a.heap.size a b) : a.grownBy b row := ⟨h.os, h.tape, h.output, h.size, fun i hi _ => h.block i hi⟩
theorem shape_at {w : World} {B : Nat} {v : Value} {T : TypeId} {s m : Nat} {xs : List Value} (h : w.ownsRow B T s v m xs) : ∃ a cap, v = .slice a m cap ∧ (0 < m → ∃ g, a = some ⟨g, 0, none⟩) := by
  rcases h.2 with ⟨rfl, h0⟩ | ⟨g, cap, cur, rfl, _⟩
  · exact ⟨none, 0, by rw [h0], fun h' => by omega⟩
  · exact ⟨_, cap, rfl, fun _ => ⟨g, rfl⟩⟩
theorem below_drew {B : Nat} {a w : World} (h : Below B a w) : Below B a w.drew := ⟨h.os, h.tape, h.output, h.size, h.block⟩
theorem below_drewN {B : Nat} {a w : World} (h : Below B a w) (n : Nat) : Below B a (w.drewN n) := ⟨h.os, h.tape, h.output, h.size, h.block⟩
theorem below_of_drew {B : Nat} {w w' : World} (h : Below B w.drew w') : Below B w w' := ⟨h.os, h.tape, h.output, h.size, h.block⟩
theorem ret_nat {a b : Nat} (h : a = b) : Ending.returned (.int .i64 (a : Int)) = .returned (.int .i64 (b : Int)) := by rw [h]
def Yes (w : World) (e : Ending) (w' : World) : Prop := e = .returned (.bool true) ∧ Below w.heap.size w w'
end Go.Proofs.YtndbhjgfaghelaaGreatDoor.Rec
