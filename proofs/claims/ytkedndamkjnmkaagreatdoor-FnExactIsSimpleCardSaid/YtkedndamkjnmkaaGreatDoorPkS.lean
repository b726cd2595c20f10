/-
  CONTRACTS AND PLAIN FACTS, several texts in one; each says in its own words what it proves.
-/
import Derived.Test.YtkedndamkjnmkaaGreatDoorPkR
import Derived.Test.YtkedndamkjnmkaaGreatDoorPkF
import Derived.LoopTactic
import Derived.Test.YtkedndamkjnmkaaGreatDoorPkC
import Derived.Test.YtkedndamkjnmkaaGreatDoorPkA
import Derived.Test.YtkedndamkjnmkaaGreatDoorPkE
import Derived.Outline

/-
  CONTRACT of the model's LowerText: at every text it returns it with the letters A to Z as a to z; nothing that was there before is changed.
-/
namespace Go.Proofs.YtkedndamkjnmkaaGreatDoor.Tx
open Go Go.RowKit Bys
set_option linter.unusedVariables false
set_option maxRecDepth 1000000

set_option maxHeartbeats 1000000 in
theorem spec_lower (s : ByteArray) (w : World) (hs : s.size ≤ 9223372036854775806) :
    Calls Tryz.prog 127 #[.string s] w fun e w' => e = .returned (.string ⟨(lower s.data.toList).toArray⟩) ∧ Below w.heap.size w w' := by
  obtain ⟨cap, w1, hcv, hat, hb⟩ := of_string s w
  have HT := Lib.hid (And.intro hat hb)
  clear hat hb
  go_enter Tryz.func127, Tryz.ntmps127
  go_wp2
  clear hcv
  go_loopw [4] (fun i wr => ∃ k : Nat, k ≤ s.size ∧ i = .int .i64 k ∧ BAt wr w.heap.size (lowk s.data.toList k) ∧ Below w.heap.size w wr) (fun i _ => s.size - (intOf i).toNat)
  case atStart => exact ⟨0, Nat.zero_le _, rfl, by rw [lowk_zero]; exact HT.out.1, HT.out.2⟩
  case round =>
    clear HT
    obtain ⟨k, hk, rfl, hat, hb⟩ := hrel
    have hL := list_len s
    by_cases hlt : k < s.size
    · have hlt' : k < s.data.toList.length := by omega
      have hcell := (hat.2 k (by rw [lowk_len]; exact hlt')).1
      have hfz := (hat.2 k (by rw [lowk_len]; exact hlt')).2
      rw [lowk_at hlt'] at hcell
      have HM := Lib.hid (lowk_more hlt')
      have HN := Lib.hid (lowk_same hlt')
      have HS := Lib.hid (bat_set (lowc (s.data.toList.getD k 0)) hat (by rw [lowk_len]; exact hlt'))
      have hub : ((s.data.toList.getD k 0).toNat : Int) ≤ 255 := by have := (s.data.toList.getD k 0).toNat_lt; omega
      have hub0 : 0 ≤ ((s.data.toList.getD k 0).toNat : Int) := by omega
      have HB := Lib.hid hb
      have HA := Lib.hid hat
      have HK := Lib.hid (show (k + 1 : Nat) ≤ s.size by omega)
      clear hlt' hL hb hat
      generalize s.data.toList.getD k 0 = c at *
      unfold bvl at hcell
      rcases hu : upc c with _ | _
      · have h1 : (c.toNat : Int) < 65 ∨ 90 < (c.toNat : Int) := by unfold upc at hu; simp at hu; omega
        have H1 := Lib.hid h1
        have HU := Lib.hid hu
        clear h1 hu
        go_wp2_with (go_at_call 48; (with_reducible refine (NumDiv.in_no _ _ _ _ H1.out).mono ?_); rintro e w' ⟨rfl, rfl⟩)
        go_roundw
        case rel => exact ⟨k + 1, HK.out, by go_num, by rw [HN.out HU.out]; exact HA.out, HB.out⟩
        case measure => simp [intOf]; omega
      · have h1 : 65 ≤ (c.toNat : Int) := by unfold upc at hu; simp at hu; omega
        have h2 : (c.toNat : Int) ≤ 90 := by unfold upc at hu; simp at hu; omega
        have hs : (c.toNat : Int) + 32 = ((lowc c).toNat : Int) := (lowc_up hu).symm
        clear hu
        go_wp2_with (go_at_call 48; (with_reducible refine (NumDiv.in_yes _ _ _ _ h1 h2).mono ?_); rintro e w' ⟨rfl, rfl⟩)
        go_roundw
        case rel => exact ⟨k + 1, HK.out, by go_num, by rw [← HM.out]; exact HS.out, below_set _ HB.out (Nat.le_refl _)⟩
        case measure => simp [intOf]; omega
    · have HE := Lib.hid (lowk_all (l := s.data.toList) (k := k) (by omega))
      have hbk := back wr w.heap.size cap (lowk s.data.toList k) hat
      rw [lowk_len, hL] at hbk
      have HB := Lib.hid hb
      clear hat hL hb
      go_wp2
      go_ret
      exact ⟨ret_str HE.out, HB.out⟩

end Go.Proofs.YtkedndamkjnmkaaGreatDoor.Tx

/-
  CONTRACTS of what is a field's name (the model's l5Name, the program's isFieldName): a token without letters in upper case.
-/
namespace Go.Proofs.YtkedndamkjnmkaaGreatDoor.Tx
open Go Go.RowKit
set_option linter.unusedVariables false
set_option maxRecDepth 1000000

def nameOk (l : List UInt8) : Bool := token l && (lower l == l)

theorem spec_name (l : List UInt8) (w : World) (hs : l.length ≤ 1048576) :
    Calls Tryz.prog 91 #[.string ⟨l.toArray⟩] w fun e w' => e = .returned (.bool (nameOk l)) ∧ Below w.heap.size w w' := by
  have hsz : (⟨l.toArray⟩ : ByteArray).size ≤ 9223372036854775806 := by simp [ByteArray.size]; omega
  have c1 := spec_token ⟨l.toArray⟩ w hsz
  have c2 := spec_lower ⟨l.toArray⟩ w hsz
  have C1 : Hid (Calls Tryz.prog 49 #[.string ⟨l.toArray⟩] w fun e w' => e = .returned (.bool (token l)) ∧ w = w') := Lib.hid c1
  have C2 : Hid (Calls Tryz.prog 127 #[.string ⟨l.toArray⟩] w fun e w' => e = .returned (.string ⟨(lower l).toArray⟩) ∧ Below w.heap.size w w') := Lib.hid c2
  clear c1 c2 hsz
  unfold nameOk
  generalize token l = t at C1 ⊢
  generalize lower l = m at C2 ⊢
  cases t
  · go_enter Tryz.func91, Tryz.ntmps91
    go_wp2_with (go_at_call 49; refine C1.out.mono ?_; rintro e w' ⟨rfl, rfl⟩)
    go_ret
    exact ⟨rfl, Below.refl _ _⟩
  · by_cases e : m = l
    · subst e
      go_enter Tryz.func91, Tryz.ntmps91
      go_wp2_with (first
        | (go_at_call 49; refine C1.out.mono ?_; rintro e w' ⟨rfl, rfl⟩)
        | (go_at_call 127; refine C2.out.mono ?_; rintro e w2 ⟨rfl, hb⟩))
      go_ret
      exact ⟨by simp, hb⟩
    · have hq : (m == l) = false := by simpa using e
      go_enter Tryz.func91, Tryz.ntmps91
      go_wp2_with (first
        | (go_at_call 49; refine C1.out.mono ?_; rintro e w' ⟨rfl, rfl⟩)
        | (go_at_call 127; refine C2.out.mono ?_; rintro e w2 ⟨rfl, hb⟩))
      go_ret
      exact ⟨by rw [hq]; rfl, hb⟩

theorem impl_name (l : List UInt8) (w : World) (hs : l.length ≤ 1048576) :
    Calls Tryz.prog 105 #[.string ⟨l.toArray⟩] w fun e w' => e = .returned (.bool (nameOk l)) ∧ Below w.heap.size w w' := by
  have hsz : (⟨l.toArray⟩ : ByteArray).size ≤ 9223372036854775806 := by simp [ByteArray.size]; omega
  have c1 := impl_token ⟨l.toArray⟩ w hsz
  have c2 := impl_lower ⟨l.toArray⟩ w hsz
  have C1 : Hid (Calls Tryz.prog 75 #[.string ⟨l.toArray⟩] w fun e w' => e = .returned (.bool (token l)) ∧ w = w') := Lib.hid c1
  have C2 : Hid (Calls Tryz.prog 137 #[.string ⟨l.toArray⟩] w fun e w' => e = .returned (.string ⟨(lower l).toArray⟩) ∧ Below w.heap.size w w') := Lib.hid c2
  clear c1 c2 hsz
  unfold nameOk
  generalize token l = t at C1 ⊢
  generalize lower l = m at C2 ⊢
  cases t
  · go_enter Tryz.func105, Tryz.ntmps105
    go_wp2_with (go_at_call 75; refine C1.out.mono ?_; rintro e w' ⟨rfl, rfl⟩)
    go_ret
    exact ⟨rfl, Below.refl _ _⟩
  · by_cases e : m = l
    · subst e
      go_enter Tryz.func105, Tryz.ntmps105
      go_wp2_with (first
        | (go_at_call 75; refine C1.out.mono ?_; rintro e w' ⟨rfl, rfl⟩)
        | (go_at_call 137; refine C2.out.mono ?_; rintro e w2 ⟨rfl, hb⟩))
      go_ret
      exact ⟨by simp, hb⟩
    · have hq : (m == l) = false := by simpa using e
      go_enter Tryz.func105, Tryz.ntmps105
      go_wp2_with (first
        | (go_at_call 75; refine C1.out.mono ?_; rintro e w' ⟨rfl, rfl⟩)
        | (go_at_call 137; refine C2.out.mono ?_; rintro e w2 ⟨rfl, hb⟩))
      go_ret
      exact ⟨by rw [hq]; rfl, hb⟩
end Go.Proofs.YtkedndamkjnmkaaGreatDoor.Tx

/-
  CONTRACTS of both sides' TrimText: at every text each returns it without the blanks at its beginning and its end; nothing that was there before is changed.
-/
namespace Go.Proofs.YtkedndamkjnmkaaGreatDoor.Tx
open Go Go.RowKit
set_option linter.unusedVariables false
set_option maxRecDepth 1000000

theorem impl_trim (s : ByteArray) (w : World) (hs : s.size ≤ 9223372036854775807) :
    Calls Tryz.prog 138 #[.string s] w fun e w' => e = .returned (.string ⟨(trim s.data.toList).toArray⟩) ∧ Below w.heap.size w w' := by
  have hcon := Tryz.strings_Trim_laid s ⟨#[32, 9]⟩ w hs (by decide) (ascii_of_all (by decide))
  change Calls Tryz.prog 77 _ _ (fun e w' => e = .returned (.string ⟨(Lib.trimS s.data.toList [32, 9]).toArray⟩) ∧ Below w.heap.size w w') at hcon
  rw [trim_set] at hcon
  generalize (⟨(trim s.data.toList).toArray⟩ : ByteArray) = r at hcon ⊢
  go_enter Tryz.func138, Tryz.ntmps138
  go_wp2_with (go_at_call 77; refine hcon.mono ?_; rintro e w' ⟨rfl, hB⟩)
  go_ret
  exact ⟨rfl, hB⟩

def slen : Value → Nat
  | .string s => s.size
  | _ => 0
theorem ret_str {a b : List UInt8} (h : a = b) : Ending.returned (.string ⟨a.toArray⟩) = .returned (.string ⟨b.toArray⟩) := by rw [h]
theorem blank_yes (c : UInt8) (h : blk c = true) (w : World) : Calls Tryz.prog 158 #[.int .u8 (c.toNat : Int)] w fun e w' => e = .returned (.bool true) ∧ w = w' := by
  have : c = 32 ∨ c = 9 := by unfold blk at h; simpa using h
  rcases this with rfl | rfl
  all_goals
    go_enter Tryz.func158, Tryz.ntmps158
    go_wp2
    go_ret
    exact ⟨rfl, rfl⟩
theorem blank_no (c : UInt8) (h : blk c = false) (w : World) : Calls Tryz.prog 158 #[.int .u8 (c.toNat : Int)] w fun e w' => e = .returned (.bool false) ∧ w = w' := by
  have h1 : ((c.toNat : Int) == 32) = false := by
    rw [beq_eq_false_iff_ne]; intro e
    have : c = 32 := UInt8.toNat_inj.1 (by simp; omega)
    subst this; revert h; decide
  have h2 : ((c.toNat : Int) == 9) = false := by
    rw [beq_eq_false_iff_ne]; intro e
    have : c = 9 := UInt8.toNat_inj.1 (by simp; omega)
    subst this; revert h; decide
  clear h
  go_enter Tryz.func158, Tryz.ntmps158
  go_wp2
  go_ret
  exact ⟨rfl, rfl⟩

theorem empty_eq {x : ByteArray} (h : x.size = 0) : x.data.toList = [] := List.eq_nil_of_length_eq_zero (by rw [Array.length_toList]; exact h)
theorem ret_trim {x : ByteArray} {a : List UInt8} (h : [] = a) (hx : x.data.toList = []) : Ending.returned (.string x) = .returned (.string ⟨a.toArray⟩) := by
  subst h
  have : x = ⟨#[]⟩ := by
    have : x.data = #[] := by simpa using hx
    cases x; simp_all
  rw [this]
theorem ret_bytes {x : ByteArray} {a : List UInt8} (h : x.data.toList = a) : Ending.returned (.string x) = .returned (.string ⟨a.toArray⟩) := by subst h; simp
theorem cut_front {x : ByteArray} {n : Nat} (h : n ≤ x.size) : (x.extract 0 n).data.toList = x.data.toList.take n := by simp
theorem cut_size {x : ByteArray} {n : Nat} (h : n ≤ x.size) : (x.extract 0 n).size = n := by simp; omega
theorem cut_one (c : UInt8) (r : List UInt8) : Value.string ((⟨(c :: r).toArray⟩ : ByteArray).extract 1 (r.length + 1)) = .string ⟨r.toArray⟩ := by
  congr 1
  have : ((⟨(c :: r).toArray⟩ : ByteArray).extract 1 (r.length + 1)).data = r.toArray := by simp
  exact ByteArray.ext this
theorem last_split {x : ByteArray} {n : Nat} (hn : x.size = n + 1) (h : n < x.size) : x.data.toList = x.data.toList.take n ++ [x[n]] := by
  have e : x.data.toList.take (n + 1) = x.data.toList := List.take_of_length_le (by rw [Array.length_toList]; have : x.data.size = x.size := rfl; omega)
  have s := List.take_succ_eq_append_getElem (l := x.data.toList) (i := n) (by rw [Array.length_toList]; exact h)
  rw [e] at s
  exact s
theorem last_no {x : ByteArray} {n : Nat} (hn : x.size = n + 1) (h : n < x.size) (hb : blk x[n] = false) : trimr x.data.toList = x.data.toList := by
  rw [last_split hn h]; exact trimr_snoc_no hb
theorem last_yes {x : ByteArray} {n : Nat} (hn : x.size = n + 1) (h : n < x.size) (hb : blk x[n] = true) : trimr x.data.toList = trimr (x.data.toList.take n) := by
  conv => lhs; rw [last_split hn h]
  exact trimr_snoc_blk hb

set_option maxHeartbeats 1000000 in
theorem spec_trim (s : ByteArray) (w : World) (hs : s.size ≤ 9223372036854775806) :
    Calls Tryz.prog 128 #[.string s] w fun e w' => e = .returned (.string ⟨(trim s.data.toList).toArray⟩) ∧ w = w' := by
  obtain ⟨l, rfl⟩ : ∃ l : List UInt8, s = ⟨l.toArray⟩ := ⟨s.data.toList, by simp⟩
  show Calls _ _ _ _ (fun e w' => e = .returned (.string ⟨(trim l).toArray⟩) ∧ w = w')
  have hl : l.length ≤ 9223372036854775806 := hs
  clear hs
  go_enter Tryz.func128, Tryz.ntmps128
  go_wp2
  go_loop [0] (fun t => ∃ m : List UInt8, t = .string ⟨m.toArray⟩ ∧ triml m = triml l ∧ m.length ≤ l.length) (fun t => slen t)
  case atStart => exact ⟨l, rfl, rfl, Nat.le_refl _⟩
  case round =>
    obtain ⟨m, rfl, hm, hml⟩ := hrel
    have HM := Lib.hid hm
    clear hm
    cases m with
    | nil =>
      have HT : Hid (trimr [] = trim l) := Lib.hid (by rw [← trimr_triml, ← HM.out]; rfl)
      go_wp2
      go_loop [0] (fun t => ∃ x : ByteArray, t = .string x ∧ trimr x.data.toList = trim l ∧ x.size ≤ l.length) (fun t => slen t)
      case atStart => exact ⟨_, rfl, HT.out, hml⟩
      case round =>
        clear HT HM
        obtain ⟨x, rfl, hm, hml2⟩ := hrel
        have HM := Lib.hid hm
        clear hm
        rcases Nat.eq_zero_or_pos x.size with h0 | h0
        · have HE := Lib.hid (empty_eq h0)
          go_wp2
          go_ret
          exact ⟨ret_trim (by rw [← HM.out, HE.out]; rfl) HE.out, rfl⟩
        · obtain ⟨n, hn⟩ : ∃ n, x.size = n + 1 := ⟨x.size - 1, by omega⟩
          have hxn : n < x.size := by omega
          rcases hb2 : blk x[n] with _ | _
          · have c3 := blank_no x[n] hb2
            have HT := Lib.hid ((last_no hn hxn hb2).symm.trans HM.out)
            go_wp2_with (go_at_call 158; refine (c3 _).mono ?_; rintro e w' ⟨rfl, rfl⟩)
            go_ret
            exact ⟨ret_bytes HT.out, rfl⟩
          · have c3 := blank_yes x[n] hb2
            have HT := Lib.hid ((last_yes hn hxn hb2).symm.trans HM.out)
            go_wp2_with (go_at_call 158; refine (c3 _).mono ?_; rintro e w' ⟨rfl, rfl⟩)
            go_round
            case rel => exact ⟨x.extract 0 n, rfl, by rw [cut_front (by omega)]; exact HT.out, by rw [cut_size (by omega)]; omega⟩
            case measure => simp [slen]; omega
    | cons c r =>
      rcases hb : blk c with _ | _
      · have c1 := blank_no c hb
        have HT : Hid (trimr (c :: r) = trim l) := Lib.hid (by rw [← trimr_triml, ← HM.out, triml_cons_no hb])
        go_wp2_with (go_at_call 158; refine (c1 _).mono ?_; rintro e w' ⟨rfl, rfl⟩)
        go_loop [0] (fun t => ∃ x : ByteArray, t = .string x ∧ trimr x.data.toList = trim l ∧ x.size ≤ l.length) (fun t => slen t)
        case atStart => exact ⟨_, rfl, HT.out, hml⟩
        case round =>
          clear HT HM
          obtain ⟨x, rfl, hm, hml2⟩ := hrel
          have HM := Lib.hid hm
          clear hm
          rcases Nat.eq_zero_or_pos x.size with h0 | h0
          · have HE := Lib.hid (empty_eq h0)
            go_wp2
            go_ret
            exact ⟨ret_trim (by rw [← HM.out, HE.out]; rfl) HE.out, rfl⟩
          · obtain ⟨n, hn⟩ : ∃ n, x.size = n + 1 := ⟨x.size - 1, by omega⟩
            have hxn : n < x.size := by omega
            rcases hb2 : blk x[n] with _ | _
            · have c3 := blank_no x[n] hb2
              have HT := Lib.hid ((last_no hn hxn hb2).symm.trans HM.out)
              go_wp2_with (go_at_call 158; refine (c3 _).mono ?_; rintro e w' ⟨rfl, rfl⟩)
              go_ret
              exact ⟨ret_bytes HT.out, rfl⟩
            · have c3 := blank_yes x[n] hb2
              have HT := Lib.hid ((last_yes hn hxn hb2).symm.trans HM.out)
              go_wp2_with (go_at_call 158; refine (c3 _).mono ?_; rintro e w' ⟨rfl, rfl⟩)
              go_round
              case rel => exact ⟨x.extract 0 n, rfl, by rw [cut_front (by omega)]; exact HT.out, by rw [cut_size (by omega)]; omega⟩
              case measure => simp [slen]; omega
      · have c1 := blank_yes c hb
        have HT := Lib.hid ((triml_cons_blk (l := r) hb).symm.trans HM.out)
        clear HM
        go_wp2_with (go_at_call 158; refine (c1 _).mono ?_; rintro e w' ⟨rfl, rfl⟩)
        go_round
        case rel => exact ⟨r, cut_one c r, HT.out, by simp at hml; omega⟩
        case measure => simp [slen, ByteArray.size]
end Go.Proofs.YtkedndamkjnmkaaGreatDoor.Tx

/-
  CONTRACTS of what is a field's value (the model's l5Value, the program's isFieldValue): at most 200 bytes, each of them a tab or one of 32 to 126, without blanks at its ends.
-/
namespace Go.Proofs.YtkedndamkjnmkaaGreatDoor.Tx
open Go Go.RowKit
set_option linter.unusedVariables false
set_option maxRecDepth 1000000

def okb (c : UInt8) : Bool := (decide (32 ≤ c.toNat) && decide (c.toNat ≤ 126)) || (c == 9)
def valOk (l : List UInt8) : Bool := l.all okb && (decide (l.length ≤ 200) && (trim l == l))
theorem okb_no {c : UInt8} (h : okb c = false) : ((c.toNat : Int) < 32 ∨ 126 < (c.toNat : Int)) ∧ (c.toNat : Int) ≠ 9 := by
  unfold okb at h
  rw [Bool.or_eq_false_iff] at h
  obtain ⟨h1, h2⟩ := h
  constructor
  · by_cases a : 32 ≤ c.toNat
    · right
      by_cases b : c.toNat ≤ 126
      · simp [a, b] at h1
      · omega
    · left; omega
  · intro e
    have : c = 9 := UInt8.toNat_inj.1 (by show c.toNat = 9; omega)
    rw [this] at h2; simp at h2
theorem okb_yes {c : UInt8} (h : okb c = true) : (32 ≤ (c.toNat : Int) ∧ (c.toNat : Int) ≤ 126) ∨ (¬ (32 ≤ (c.toNat : Int) ∧ (c.toNat : Int) ≤ 126) ∧ c = 9) := by
  unfold okb at h
  rw [Bool.or_eq_true] at h
  rcases h with h | h
  · rw [Bool.and_eq_true] at h
    have h1 := of_decide_eq_true h.1
    have h2 := of_decide_eq_true h.2
    left; omega
  · have e : c = 9 := by simpa using h
    subst e; right; exact ⟨by decide, rfl⟩
theorem okb_more {s : ByteArray} {k : Nat} (h : k < s.size) (ha : (s.data.toList.take k).all okb = true) (hc : okb s[k] = true) : (s.data.toList.take (k + 1)).all okb = true := by
  rw [take_snoc s k h, List.all_append, ha, List.all_cons, hc]; rfl
theorem val_bad {s : ByteArray} {k : Nat} (h : k < s.size) (hc : okb s[k] = false) : valOk s.data.toList = false := by
  unfold valOk
  have : s.data.toList.all okb = false := by
    rw [Bool.eq_false_iff]
    intro ha
    have hm : s[k] ∈ s.data.toList := by
      rw [← List.take_append_drop k s.data.toList, drop_cons s k h]; simp
    rw [List.all_eq_true] at ha
    have := ha _ hm
    rw [hc] at this; cases this
  rw [this, Bool.false_and]
theorem val_all {s : ByteArray} {k : Nat} (h : k = s.size) (ha : (s.data.toList.take k).all okb = true) : valOk s.data.toList = (decide (s.size ≤ 200) && (trim s.data.toList == s.data.toList)) := by
  have e : s.data.toList.take k = s.data.toList := List.take_of_length_le (by rw [list_len]; omega)
  rw [e] at ha
  unfold valOk
  rw [ha, Bool.true_and, list_len]

set_option maxHeartbeats 1000000 in
theorem spec_val (s : ByteArray) (w : World) (hs : s.size ≤ 1048576) :
    Calls Tryz.prog 92 #[.string s] w fun e w' => e = .returned (.bool (valOk s.data.toList)) ∧ w = w' := by
  have CT := Lib.hid (spec_trim s w (by omega))
  go_enter Tryz.func92, Tryz.ntmps92
  go_wp2
  go_loop [3] (fun i => ∃ k : Nat, k ≤ s.size ∧ i = .int .i64 k ∧ (s.data.toList.take k).all okb = true) (fun i => s.size - (intOf i).toNat)
  case atStart => exact ⟨0, Nat.zero_le _, rfl, rfl⟩
  case round =>
    obtain ⟨k, hk, rfl, ha⟩ := hrel
    have HA := Lib.hid ha
    clear ha
    by_cases hlt : k < s.size
    · have hb255 : (s[k].toNat : Int) ≤ 255 := by have := s[k].toNat_lt; omega
      rcases hc : okb s[k] with _ | _
      · have HT := Lib.hid (val_bad hlt hc)
        obtain ⟨q1, q2⟩ := okb_no hc
        have HQ := Lib.hid q1
        clear hc q1
        go_wp2_with (go_at_call 48; refine (NumDiv.in_no _ _ _ _ HQ.out).mono ?_; rintro e w' ⟨rfl, rfl⟩)
        go_ret
        exact ⟨ret_bool HT.out.symm, rfl⟩
      · have HT := Lib.hid (okb_more hlt HA.out hc)
        rcases okb_yes hc with ⟨q1, q2⟩ | ⟨q1, q2⟩
        · clear hc
          go_wp2_with (go_at_call 48; refine (NumDiv.in_yes _ _ _ _ q1 q2).mono ?_; rintro e w' ⟨rfl, rfl⟩)
          go_round
          case rel => exact ⟨k + 1, by omega, by go_num, HT.out⟩
          case measure => simp [intOf]; omega
        · have HQ := Lib.hid q1
          clear hc q1
          go_wp2_with (go_at_call 48; refine (NumDiv.in_no _ _ _ _ (by have := HQ.out; omega)).mono ?_; rintro e w' ⟨rfl, rfl⟩)
          go_round
          case rel => exact ⟨k + 1, by omega, by go_num, HT.out⟩
          case measure => simp [intOf]; omega
    · have HT := Lib.hid (val_all (show k = s.size by omega) HA.out)
      have hkk : k = s.size := by omega
      subst hkk
      clear HA hk
      obtain ⟨l, rfl⟩ : ∃ l : List UInt8, s = ⟨l.toArray⟩ := ⟨s.data.toList, rfl⟩
      have hsz : (⟨l.toArray⟩ : ByteArray).size = l.length := by simp [ByteArray.size]
      have HT' : Hid (valOk l = (decide (l.length ≤ 200) && (trim l == l))) := Lib.hid (by have h := HT.out; rw [hsz] at h; exact h)
      have CT' : Hid (Calls Tryz.prog 128 #[.string ⟨l.toArray⟩] w fun e w' => e = .returned (.string ⟨(trim l).toArray⟩) ∧ w = w') := Lib.hid CT.out
      have hs' : l.length ≤ 1048576 := by rw [hsz] at hs; exact hs
      clear HT CT hs
      rw [show (⟨l.toArray⟩ : ByteArray).data.toList = l from rfl]
      generalize trim l = m at HT' CT'
      by_cases h2 : l.length ≤ 200
      · by_cases e : m = l
        · subst e
          have HR : Hid (true = valOk m) := Lib.hid (by rw [HT'.out]; simp [h2])
          clear HT'
          go_wp2_with (go_at_call 128; refine CT'.out.mono ?_; rintro e w' ⟨rfl, rfl⟩)
          go_ret
          exact ⟨ret_bool HR.out, rfl⟩
        · have hq : (m == l) = false := by simpa using e
          have HR : Hid (false = valOk l) := Lib.hid (by rw [HT'.out, hq, Bool.and_false])
          clear HT'
          go_wp2_with (go_at_call 128; refine CT'.out.mono ?_; rintro e w' ⟨rfl, rfl⟩)
          go_ret
          exact ⟨ret_bool HR.out, rfl⟩
      · have HR : Hid (false = valOk l) := Lib.hid (by rw [HT'.out]; simp [h2])
        clear HT' CT'
        go_wp2
        go_ret
        exact ⟨ret_bool HR.out, rfl⟩

set_option maxHeartbeats 1000000 in
theorem impl_val (l : List UInt8) (w : World) (hs : l.length ≤ 1048576) :
    Calls Tryz.prog 106 #[.string ⟨l.toArray⟩] w fun e w' => e = .returned (.bool (valOk l)) ∧ Below w.heap.size w w' := by
  have hsz : (⟨l.toArray⟩ : ByteArray).size = l.length := by simp [ByteArray.size]
  have CT : Hid (Calls Tryz.prog 138 #[.string ⟨l.toArray⟩] w fun e w' => e = .returned (.string ⟨(trim l).toArray⟩) ∧ Below w.heap.size w w') := Lib.hid (impl_trim ⟨l.toArray⟩ w (by rw [hsz]; omega))
  have HV : Hid (valOk l = (l.all okb && (decide (l.length ≤ 200) && (trim l == l)))) := Lib.hid rfl
  generalize trim l = m at CT HV
  by_cases h2 : l.length ≤ 200
  · by_cases e : m = l
    · subst e
      have HV2 : Hid (valOk m = m.all okb) := Lib.hid (by rw [HV.out]; simp [h2])
      clear HV
      obtain ⟨s, hse⟩ : ∃ s : ByteArray, s = ⟨m.toArray⟩ := ⟨_, rfl⟩
      have HM : Hid (s.data.toList = m) := Lib.hid (by rw [hse])
      have hs2 : s.size ≤ 200 := by rw [hse, hsz]; exact h2
      rw [← hse] at CT ⊢
      clear hse hsz hs h2
      go_enter Tryz.func106, Tryz.ntmps106
      go_wp2_with (fail)
      go_at_call 138
      refine CT.out.mono ?_
      rintro e w' ⟨rfl, hb⟩
      have HB := Lib.hid hb
      clear hb CT
      go_wp2
      go_loop [15] (fun i => ∃ k : Nat, k ≤ s.size ∧ i = .int .i64 k ∧ (s.data.toList.take k).all okb = true) (fun i => s.size - (intOf i).toNat)
      case atStart => exact ⟨0, Nat.zero_le _, rfl, rfl⟩
      case round =>
        obtain ⟨k, hk, rfl, ha⟩ := hrel
        have HA := Lib.hid ha
        clear ha
        by_cases hlt : k < s.size
        · have hb255 : (s[k].toNat : Int) ≤ 255 := by have := s[k].toNat_lt; omega
          rcases hc : okb s[k] with _ | _
          · have HT : Hid (false = valOk m) := Lib.hid (by rw [HV2.out, ← HM.out]; symm; rw [Bool.eq_false_iff]; intro ha; have hm : s[k] ∈ s.data.toList := by (rw [← List.take_append_drop k s.data.toList, drop_cons s k hlt]; simp)
                                                           rw [List.all_eq_true] at ha; have := ha _ hm; rw [hc] at this; cases this)
            obtain ⟨q1, q2⟩ := okb_no hc
            clear hc
            rcases q1 with q1 | q1
            · go_wp2
              go_ret
              exact ⟨ret_bool HT.out, HB.out⟩
            · have q3 : ¬ (s[k].toNat : Int) < 32 := by omega
              go_wp2
              go_ret
              exact ⟨ret_bool HT.out, HB.out⟩
          · have HT := Lib.hid (okb_more hlt HA.out hc)
            rcases okb_yes hc with ⟨q1, q2⟩ | ⟨q1, q2⟩
            · have q3 : ¬ (s[k].toNat : Int) < 32 := by omega
              have q4 : ¬ 126 < (s[k].toNat : Int) := by omega
              clear hc
              go_wp2
              go_round
              case rel => exact ⟨k + 1, by omega, by go_num, HT.out⟩
              case measure => simp [intOf]; omega
            · clear hc q1
              go_wp2
              go_round
              case rel => exact ⟨k + 1, by omega, by go_num, HT.out⟩
              case measure => simp [intOf]; omega
        · have HT : Hid (true = valOk m) := Lib.hid (by have h := HA.out; rw [List.take_of_length_le (by rw [list_len]; omega), HM.out] at h; rw [HV2.out, h])
          go_wp2
          go_ret
          exact ⟨ret_bool HT.out, HB.out⟩
    · have hq : (m == l) = false := by simpa using e
      have HR : Hid (false = valOk l) := Lib.hid (by rw [HV.out, hq, Bool.and_false, Bool.and_false])
      clear HV
      go_enter Tryz.func106, Tryz.ntmps106
      go_wp2_with (fail)
      go_at_call 138
      refine CT.out.mono ?_
      rintro e w' ⟨rfl, hb⟩
      go_wp2
      go_ret
      exact ⟨ret_bool HR.out, hb⟩
  · have HR : Hid (false = valOk l) := Lib.hid (by rw [HV.out]; simp [h2])
    clear HV CT
    go_enter Tryz.func106, Tryz.ntmps106
    go_wp2
    go_ret
    exact ⟨ret_bool HR.out, Below.refl _ _⟩
end Go.Proofs.YtkedndamkjnmkaaGreatDoor.Tx
