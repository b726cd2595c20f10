/-
  CONTRACTS AND PLAIN FACTS, several texts in one; each says in its own words what it proves.
-/
import Derived.Test.YtfkejnbkglaokaaGreatDoorPartJ
import Derived.Test.YtfkejnbkglaokaaGreatDoorPartH
import Derived.Test.YtfkejnbkglaokaaGreatDoorPartF
import Derived.Test.YtfkejnbkglaokaaGreatDoorPartA
import Derived.Deep.QuietTactic
import Derived.BigQuiet
import Derived.Test.YtfkejnbkglaokaaGreatDoorPartD
import Derived.Laws.OwnMore
import Derived.Tactics
set_option linter.unusedSimpArgs false
set_option linter.unusedVariables false

/-
  CONTRACTS of what is a valid request (the model's IsRequest; the program's isMethod, isHost, isTarget, isValid and IsRequest); nothing that was there before is changed.
-/
namespace Go.Proofs.YtfkejnbkglaokaaGreatDoor.Msg
open Go Go.RowKit
set_option linter.unusedVariables false
set_option maxRecDepth 1000000

def hostName : List UInt8 := [104, 111, 115, 116]
def reqOk (m h t : List UInt8) (l : List Flds.Fld) : Bool := (methOk m && hostOk h && targOk t) && (ownOk l && !Flds.has l hostName)
theorem bsz (y : List UInt8) : (⟨y.toArray⟩ : ByteArray).size = y.length := by simp [ByteArray.size]

set_option maxHeartbeats 1000000 in
theorem impl_method (m : List UInt8) (w : World) (hm : m.length ≤ 1048576) :
    Calls Tryz.prog 54 #[.string ⟨m.toArray⟩] w (BoolEnd (methOk m) w) := by
  have HT : Hid (∀ W : World, Calls Tryz.prog 81 #[.string ⟨m.toArray⟩] W fun e w' => e = .returned (.bool (Tx.token m)) ∧ W = w') := Lib.hid (fun W => Tx.impl_token ⟨m.toArray⟩ W (by rw [bsz]; omega))
  have HO : Hid (methOk m = (m.all nolow && Tx.token m)) := Lib.hid rfl
  unfold BoolEnd
  cases hz : Tx.token m with
  | false =>
    have HE : Hid (methOk m = false) := Lib.hid (by rw [HO.out, hz, Bool.and_false])
    rw [hz] at HT
    clear hz HO
    go_enter Tryz.func54, Tryz.ntmps54
    go_wp2_with (fail)
    go_at_call 81
    refine (HT.out _).mono ?_
    rintro e w1 ⟨rfl, rfl⟩
    go_wp2
    go_ret
    exact ⟨ret_b HE.out.symm, Below.refl _ _⟩
  | true =>
    have HU : Hid (∀ W : World, Calls Tryz.prog 82 #[.string ⟨m.toArray⟩] W fun e w' => e = .returned (.string ⟨(Lib.toUpperA m).toArray⟩) ∧ Below W.heap.size W w') := Lib.hid (fun W => Tryz.strings_ToUpper_ascii ⟨m.toArray⟩ W (by rw [bsz]; omega) (token_ascii hz))
    have HE : Hid (methOk m = decide (Lib.toUpperA m = m)) := Lib.hid (by rw [HO.out, hz, Bool.and_true, Bool.eq_iff_iff, decide_eq_true_iff]; exact (upper_same m).symm)
    rw [hz] at HT
    clear hz HO
    generalize Lib.toUpperA m = u at HU HE
    by_cases hu : u = m
    · subst hu
      have HF : Hid (methOk u = true) := Lib.hid (by rw [HE.out]; simp)
      clear HE
      go_enter Tryz.func54, Tryz.ntmps54
      go_wp2_with (fail)
      go_at_call 81
      refine (HT.out _).mono ?_
      rintro e w1 ⟨rfl, rfl⟩
      go_wp2_with (fail)
      go_at_call 82
      refine (HU.out _).mono ?_
      rintro e w1 ⟨rfl, hb1⟩
      have HB := Lib.hid hb1
      clear hb1
      go_wp2
      go_ret
      exact ⟨ret_b HF.out.symm, HB.out⟩
    · have HF : Hid (methOk m = false) := Lib.hid (by rw [HE.out, decide_eq_false hu])
      have hq : (u == m) = false := by simpa using hu
      clear HE hu
      go_enter Tryz.func54, Tryz.ntmps54
      go_wp2_with (fail)
      go_at_call 81
      refine (HT.out _).mono ?_
      rintro e w1 ⟨rfl, rfl⟩
      go_wp2_with (fail)
      go_at_call 82
      refine (HU.out _).mono ?_
      rintro e w1 ⟨rfl, hb1⟩
      have HB := Lib.hid hb1
      clear hb1
      go_wp2
      go_ret
      exact ⟨ret_b HF.out.symm, HB.out⟩

set_option maxHeartbeats 1000000 in
theorem impl_host (h : List UInt8) (w : World) (hh : h.length ≤ 1048576) :
    Calls Tryz.prog 55 #[.string ⟨h.toArray⟩] w (BoolEnd (hostOk h) w) := by
  have hsz := bsz h
  have HO : Hid (hostOk h = (h.all hb && decide (1 ≤ h.length ∧ h.length ≤ 40))) := Lib.hid rfl
  have HT : Hid (∀ W : World, Calls Tryz.prog 83 #[.string ⟨h.toArray⟩, .string ⟨#[97, 98, 99, 100, 101, 102, 103, 104, 105, 106, 107, 108, 109, 110, 111, 112, 113, 114, 115, 116, 117, 118, 119, 120, 121, 122, 48, 49, 50, 51, 52, 53, 54, 55, 56, 57, 45, 46]⟩] W fun e w' => e = .returned (.string ⟨(Lib.trimS h hbs).toArray⟩) ∧ Below W.heap.size W w') :=
    Lib.hid (fun W => Tryz.strings_Trim_laid ⟨h.toArray⟩ ⟨#[97, 98, 99, 100, 101, 102, 103, 104, 105, 106, 107, 108, 109, 110, 111, 112, 113, 114, 115, 116, 117, 118, 119, 120, 121, 122, 48, 49, 50, 51, 52, 53, 54, 55, 56, 57, 45, 46]⟩ W (by rw [bsz]; omega) (by decide) (by
      intro j b hj
      have hall : ∀ x ∈ hbs, x.toNat < 128 := by decide
      exact hall b (List.mem_of_getElem? hj)))
  unfold BoolEnd
  by_cases h1 : 1 ≤ (h.length : Int)
  case neg =>
    have HE : Hid (hostOk h = false) := Lib.hid (by rw [HO.out, decide_eq_false (by omega), Bool.and_false])
    clear HO HT
    go_enter Tryz.func55, Tryz.ntmps55
    go_wp2
    go_ret
    exact ⟨ret_b HE.out.symm, Below.refl _ _⟩
  by_cases h2 : (h.length : Int) ≤ 40
  case neg =>
    have HE : Hid (hostOk h = false) := Lib.hid (by rw [HO.out, decide_eq_false (by omega), Bool.and_false])
    clear HO HT
    go_enter Tryz.func55, Tryz.ntmps55
    go_wp2
    go_ret
    exact ⟨ret_b HE.out.symm, Below.refl _ _⟩
  have HE : Hid (hostOk h = decide (Lib.trimS h hbs = [])) := Lib.hid (by rw [HO.out, decide_eq_true (by omega), Bool.and_true, Bool.eq_iff_iff, decide_eq_true_iff]; exact (trim_hb h).symm)
  clear HO
  generalize Lib.trimS h hbs = u at HT HE
  by_cases hu : u = []
  · subst hu
    have HF : Hid (hostOk h = true) := Lib.hid (by rw [HE.out]; rfl)
    clear HE
    go_enter Tryz.func55, Tryz.ntmps55
    go_wp2_with (fail)
    go_at_call 83
    refine (HT.out _).mono ?_
    rintro e w1 ⟨rfl, hb1⟩
    have HB := Lib.hid hb1
    clear hb1
    go_wp2
    go_ret
    exact ⟨ret_b HF.out.symm, HB.out⟩
  · have HF : Hid (hostOk h = false) := Lib.hid (by rw [HE.out, decide_eq_false hu])
    have hq : (u == []) = false := by simpa using hu
    clear HE
    go_enter Tryz.func55, Tryz.ntmps55
    go_wp2_with (fail)
    go_at_call 83
    refine (HT.out _).mono ?_
    rintro e w1 ⟨rfl, hb1⟩
    have HB := Lib.hid hb1
    clear hb1
    go_wp2
    go_ret
    exact ⟨ret_b HF.out.symm, HB.out⟩

theorem pre47 (s : ByteArray) : Lib.hasPrefix s.data.toList [47] = (s.data.toList.head? == some 47) := by
  cases s.data.toList with
  | nil => rfl
  | cons a t =>
    unfold Lib.hasPrefix
    have : (47 == a) = (a == 47) := by rw [Bool.eq_iff_iff]; simp; exact eq_comm
    simp [List.isPrefixOf, this]
set_option maxHeartbeats 1000000 in
theorem impl_targ_s (s : ByteArray) (w : World) (hs : s.size ≤ 1048576) :
    Calls Tryz.prog 56 #[.string s] w (BoolEnd (targOk s.data.toList) w) := by
  have HO : Hid (targOk s.data.toList = (s.data.toList.all tb && (decide (1 ≤ s.size ∧ s.size ≤ 100) && s.data.toList.head? == some 47))) := Lib.hid (by unfold targOk; rw [Tx.list_len])
  have HP : Hid (∀ W : World, Calls Tryz.prog 84 #[.string s, .string ⟨#[47]⟩] W fun e w' => e = .returned (.bool (Lib.hasPrefix s.data.toList [47])) ∧ w' = W) := Lib.hid (fun W => Tryz.strings_HasPrefix s ⟨#[47]⟩ W)
  rw [pre47] at HP
  unfold BoolEnd
  by_cases h1 : 100 < (s.size : Int)
  · have HE : Hid (targOk s.data.toList = false) := Lib.hid (by rw [HO.out, decide_eq_false (by omega), Bool.false_and, Bool.and_false])
    clear HO HP
    go_enter Tryz.func56, Tryz.ntmps56
    go_wp2
    go_ret
    exact ⟨ret_b HE.out.symm, Below.refl _ _⟩
  cases hp : (s.data.toList.head? == some 47) with
  | false =>
    have HE : Hid (targOk s.data.toList = false) := Lib.hid (by rw [HO.out, hp, Bool.and_false, Bool.and_false])
    rw [hp] at HP
    clear HO hp
    go_enter Tryz.func56, Tryz.ntmps56
    go_wp2_with (fail)
    go_at_call 84
    refine (HP.out _).mono ?_
    rintro e w1 ⟨rfl, hw⟩
    rw [hw]
    go_wp2
    go_ret
    exact ⟨ret_b HE.out.symm, Below.refl _ _⟩
  | true =>
    have HE : Hid (targOk s.data.toList = s.data.toList.all tb) := Lib.hid (by
      have h0 : 1 ≤ s.size := by
        rw [← Tx.list_len]
        cases hl : s.data.toList with
        | nil => rw [hl] at hp; cases hp
        | cons a t => simp
      rw [HO.out, hp, decide_eq_true (by omega), Bool.and_true, Bool.and_true])
    rw [hp] at HP
    clear HO hp
    go_enter Tryz.func56, Tryz.ntmps56
    go_wp2_with (fail)
    go_at_call 84
    refine (HP.out _).mono ?_
    rintro e w1 ⟨rfl, hw⟩
    rw [hw]
    clear hw
    go_wp2
    go_loop [3, 14] (fun j i => ∃ k : Nat, k ≤ s.size ∧ i = .int .i64 k ∧ (s.data.toList.take k).all tb = true) (fun _ i => s.size - (intOf i).toNat)
    case atStart => exact ⟨0, Nat.zero_le _, rfl, rfl⟩
    case round =>
      obtain ⟨k, hk, rfl, ha⟩ := hrel
      have HA := Lib.hid ha
      clear ha
      by_cases hlt : k < s.size
      · have hb255 : (s[k].toNat : Int) ≤ 255 := by have := s[k].toNat_lt; omega
        rcases hc : tb s[k] with _ | _
        · have HT := Lib.hid (all_bad hlt hc)
          rcases tb_no hc with q | q
          · have q1 : (s[k].toNat : Int) ≤ 32 := by omega
            clear hc q
            go_wp2
            go_ret
            exact ⟨ret_b (by rw [HE.out, HT.out]), Below.refl _ _⟩
          · have q1 : ¬ (s[k].toNat : Int) ≤ 32 := by omega
            clear hc
            go_wp2
            go_ret
            exact ⟨ret_b (by rw [HE.out, HT.out]), Below.refl _ _⟩
        · have HT := Lib.hid (all_more hlt HA.out hc)
          obtain ⟨q1, q2⟩ := tb_yes hc
          have q3 : ¬ (s[k].toNat : Int) ≤ 32 := by omega
          have q4 : ¬ 126 < (s[k].toNat : Int) := by omega
          clear hc q1 q2
          go_wp2
          go_round
          case rel => exact ⟨k + 1, by omega, by go_num, HT.out⟩
          case measure => simp [intOf]; omega
      · have HT := Lib.hid (all_end (show k = s.size by omega) HA.out)
        go_wp2
        go_ret
        exact ⟨ret_b (by rw [HE.out, HT.out]), Below.refl _ _⟩
theorem impl_targ (t : List UInt8) (w : World) (ht : t.length ≤ 1048576) :
    Calls Tryz.prog 56 #[.string ⟨t.toArray⟩] w (BoolEnd (targOk t) w) := impl_targ_s ⟨t.toArray⟩ w (by rw [bsz]; exact ht)

set_option maxRecDepth 1000000 in
set_option maxHeartbeats 2000000 in
theorem impl_valid_req (m h t : List UInt8) (v : Value) (B : Nat) (l : List Flds.Fld) (w : World) (hh : Flds.Holds w B v l) (hB : B ≤ w.heap.size) (hl : Flds.total l ≤ 1048576) (hm : m.length ≤ 1048576) (hhl : h.length ≤ 1048576) (ht : t.length ≤ 1048576) :
    Calls Tryz.prog 30 #[.agg #[.string ⟨m.toArray⟩, .string ⟨h.toArray⟩, .string ⟨t.toArray⟩, v]] w (BoolEnd (reqOk m h t l) w) := by
  have HB0 : Hid (Below w.heap.size w (w.alloc (.cells #[.string ⟨m.toArray⟩, .string ⟨h.toArray⟩, .string ⟨t.toArray⟩, v] 24))) := Lib.hid ((Below.refl _ _).alloc (Nat.le_refl _) _)
  have H1 := Lib.hid (fun W => impl_method m W hm)
  have H2 := Lib.hid (fun W => impl_host h W hhl)
  have H3 := Lib.hid (fun W => impl_targ t W ht)
  have H4 := Lib.hid (fun (W : World) (hb : Below w.heap.size w W) => impl_own v B l W (Flds.holds_below hh (hb.mono hB)) (Nat.le_trans hB hb.size) hl)
  have H5 := Lib.hid (fun (W : World) (hb : Below w.heap.size w W) => Flds.impl_has v B l hostName W (Flds.holds_below hh (hb.mono hB)) (Nat.le_trans hB hb.size) (len_total hl))
  have HO : Hid (reqOk m h t l = ((methOk m && hostOk h && targOk t) && (ownOk l && !Flds.has l hostName))) := Lib.hid rfl
  have HK := Lib.hid (fun w1 (hb : Below (w.alloc (.cells #[.string ⟨m.toArray⟩, .string ⟨h.toArray⟩, .string ⟨t.toArray⟩, v] 24)).heap.size (w.alloc (.cells #[.string ⟨m.toArray⟩, .string ⟨h.toArray⟩, .string ⟨t.toArray⟩, v] 24)) w1) => And.intro (And.intro ((Kept.one hb).1 0 _ rfl) (And.intro ((Kept.one hb).1 1 _ rfl) (And.intro ((Kept.one hb).1 2 _ rfl) ((Kept.one hb).1 3 _ rfl)))) (Kept.below_in hb))
  unfold BoolEnd at *
  unfold hostName at H5 HO
  clear hh hl
  generalize methOk m = z1 at H1 HO
  generalize hostOk h = z2 at H2 HO
  generalize targOk t = z3 at H3 HO
  generalize ownOk l = z4 at H4 HO
  generalize Flds.has l [104, 111, 115, 116] = z5 at H5 HO
  cases z1 with
  | false =>
    have HE : Hid (reqOk m h t l = false) := Lib.hid (by rw [HO.out]; simp)
    clear HO
    go_enter Tryz.func30, Tryz.ntmps30
    go_wp2_with (fail)
    go_at_call 54
    refine (H1.out _).mono ?_
    rintro e w1 ⟨rfl, b1⟩
    have HB1 := Lib.hid (HK.out _ b1).2
    clear b1
    go_wp2
    go_ret
    exact ⟨ret_b HE.out.symm, HB1.out⟩
  | true =>
  cases z2 with
  | false =>
    have HE : Hid (reqOk m h t l = false) := Lib.hid (by rw [HO.out]; simp)
    clear HO
    go_enter Tryz.func30, Tryz.ntmps30
    go_wp2_with (fail)
    go_at_call 54
    refine (H1.out _).mono ?_
    rintro e w1 ⟨rfl, b1⟩
    obtain ⟨⟨c0, c1, c2, c3⟩, hb1⟩ := HK.out _ b1
    have HS1 := Lib.hid b1
    clear b1 hb1
    go_wp2_with (fail)
    go_at_call 55
    refine (H2.out _).mono ?_
    rintro e w2 ⟨rfl, b2⟩
    clear c0 c1 c2 c3
    have HS2 := Lib.hid (Base.then_below HS1.out b2)
    have HB2 := Lib.hid (HK.out _ HS2.out).2
    clear b2
    go_wp2
    go_ret
    exact ⟨ret_b HE.out.symm, HB2.out⟩
  | true =>
  cases z3 with
  | false =>
    have HE : Hid (reqOk m h t l = false) := Lib.hid (by rw [HO.out]; simp)
    clear HO
    go_enter Tryz.func30, Tryz.ntmps30
    go_wp2_with (fail)
    go_at_call 54
    refine (H1.out _).mono ?_
    rintro e w1 ⟨rfl, b1⟩
    obtain ⟨⟨c0, c1, c2, c3⟩, hb1⟩ := HK.out _ b1
    have HS1 := Lib.hid b1
    clear b1 hb1
    go_wp2_with (fail)
    go_at_call 55
    refine (H2.out _).mono ?_
    rintro e w2 ⟨rfl, b2⟩
    clear c0 c1 c2 c3
    have HS2 := Lib.hid (Base.then_below HS1.out b2)
    obtain ⟨⟨c0, c1, c2, c3⟩, hb2⟩ := HK.out _ HS2.out
    clear b2 hb2
    go_wp2_with (fail)
    go_at_call 56
    refine (H3.out _).mono ?_
    rintro e w3 ⟨rfl, b3⟩
    clear c0 c1 c2 c3
    have HB3 := Lib.hid (HK.out _ (Base.then_below HS2.out b3)).2
    clear b3
    go_wp2
    go_ret
    exact ⟨ret_b HE.out.symm, HB3.out⟩
  | true =>
  cases z4 with
  | false =>
    have HE : Hid (reqOk m h t l = false) := Lib.hid (by rw [HO.out]; simp)
    clear HO
    go_enter Tryz.func30, Tryz.ntmps30
    go_wp2_with (fail)
    go_at_call 54
    refine (H1.out _).mono ?_
    rintro e w1 ⟨rfl, b1⟩
    obtain ⟨⟨c0, c1, c2, c3⟩, hb1⟩ := HK.out _ b1
    have HS1 := Lib.hid b1
    clear b1 hb1
    go_wp2_with (fail)
    go_at_call 55
    refine (H2.out _).mono ?_
    rintro e w2 ⟨rfl, b2⟩
    clear c0 c1 c2 c3
    have HS2 := Lib.hid (Base.then_below HS1.out b2)
    obtain ⟨⟨c0, c1, c2, c3⟩, hb2⟩ := HK.out _ HS2.out
    clear b2 hb2
    go_wp2_with (fail)
    go_at_call 56
    refine (H3.out _).mono ?_
    rintro e w3 ⟨rfl, b3⟩
    clear c0 c1 c2 c3
    have HS3 := Lib.hid (Base.then_below HS2.out b3)
    obtain ⟨⟨c0, c1, c2, c3⟩, hb3⟩ := HK.out _ HS3.out
    have HB3 := Lib.hid hb3
    clear b3 hb3
    go_wp2_with (fail)
    go_at_call 57
    refine (H4.out _ HB3.out).mono ?_
    rintro e w4 ⟨rfl, b4⟩
    clear c0 c1 c2 c3
    have HB4 := Lib.hid (HK.out _ (Base.then_below HS3.out b4)).2
    clear b4
    go_wp2
    go_ret
    exact ⟨ret_b HE.out.symm, HB4.out⟩
  | true =>
    have HE : Hid (reqOk m h t l = !z5) := Lib.hid (by rw [HO.out]; simp)
    clear HO
    go_enter Tryz.func30, Tryz.ntmps30
    go_wp2_with (fail)
    go_at_call 54
    refine (H1.out _).mono ?_
    rintro e w1 ⟨rfl, b1⟩
    obtain ⟨⟨c0, c1, c2, c3⟩, hb1⟩ := HK.out _ b1
    have HS1 := Lib.hid b1
    clear b1 hb1
    go_wp2_with (fail)
    go_at_call 55
    refine (H2.out _).mono ?_
    rintro e w2 ⟨rfl, b2⟩
    clear c0 c1 c2 c3
    have HS2 := Lib.hid (Base.then_below HS1.out b2)
    obtain ⟨⟨c0, c1, c2, c3⟩, hb2⟩ := HK.out _ HS2.out
    clear b2 hb2
    go_wp2_with (fail)
    go_at_call 56
    refine (H3.out _).mono ?_
    rintro e w3 ⟨rfl, b3⟩
    clear c0 c1 c2 c3
    have HS3 := Lib.hid (Base.then_below HS2.out b3)
    obtain ⟨⟨c0, c1, c2, c3⟩, hb3⟩ := HK.out _ HS3.out
    have HB3 := Lib.hid hb3
    clear b3 hb3
    go_wp2_with (fail)
    go_at_call 57
    refine (H4.out _ HB3.out).mono ?_
    rintro e w4 ⟨rfl, b4⟩
    clear c0 c1 c2 c3
    have HS4 := Lib.hid (Base.then_below HS3.out b4)
    obtain ⟨⟨c0, c1, c2, c3⟩, hb4⟩ := HK.out _ HS4.out
    have HB4 := Lib.hid hb4
    clear b4 hb4
    go_wp2_with (fail)
    go_at_call 58
    refine (H5.out _ HB4.out).mono ?_
    rintro e w5 ⟨rfl, b5⟩
    clear c0 c1 c2 c3
    have HB5 := Lib.hid (HK.out _ (Base.then_below HS4.out b5)).2
    clear b5
    go_wp2
    go_ret
    exact ⟨ret_b HE.out.symm, HB5.out⟩

end Go.Proofs.YtfkejnbkglaokaaGreatDoor.Msg

/-
  CONTRACT of the model's IsRequest; nothing that was there before is changed.
-/
namespace Go.Proofs.YtfkejnbkglaokaaGreatDoor.Msg
open Go Go.RowKit
set_option linter.unusedVariables false
set_option maxRecDepth 1000000

/-- What is left to ask when all bytes are of their kinds. -/
def reqRest (sm sh st : ByteArray) (l : List Flds.Fld) : Bool := Tx.token sm.data.toList && (decide (1 ≤ sh.size ∧ sh.size ≤ 40) && (decide (1 ≤ st.size ∧ st.size ≤ 100) && (st.data.toList.head? == some 47 && (ownOk l && !Flds.has l hostName))))
theorem rest_of {sm sh st : ByteArray} {l : List Flds.Fld} (h1 : sm.data.toList.all nolow = true) (h2 : sh.data.toList.all hb = true) (h3 : st.data.toList.all tb = true) : reqOk sm.data.toList sh.data.toList st.data.toList l = reqRest sm sh st l := by
  unfold reqOk methOk hostOk targOk reqRest
  rw [h1, h2, h3, Tx.list_len, Tx.list_len]
  simp only [Bool.true_and, Bool.and_assoc]
theorem bad_m {m h t : List UInt8} {l : List Flds.Fld} (e : m.all nolow = false) : reqOk m h t l = false := by unfold reqOk methOk; rw [e]; simp
theorem bad_h {m h t : List UInt8} {l : List Flds.Fld} (e : h.all hb = false) : reqOk m h t l = false := by unfold reqOk hostOk; rw [e]; simp
theorem bad_t {m h t : List UInt8} {l : List Flds.Fld} (e : t.all tb = false) : reqOk m h t l = false := by unfold reqOk targOk; rw [e]; simp

set_option maxRecDepth 1000000 in
set_option maxHeartbeats 4000000 in
theorem spec_isq_s (sm sh st : ByteArray) (v : Value) (B : Nat) (l : List Flds.Fld) (w : World) (hh : Flds.Holds w B v l) (hB : B ≤ w.heap.size) (hl : Flds.total l ≤ 1048576) (hm : sm.size ≤ 1048576) (hhl : sh.size ≤ 1048576) (ht : st.size ≤ 1048576) :
    Calls Tryz.prog 21 #[.agg #[.string sm, .string sh, .string st, v]] w (BoolEnd (reqOk sm.data.toList sh.data.toList st.data.toList l) w) := by
  have HB0 : Hid (Below w.heap.size w (w.alloc (.cells #[.string sm, .string sh, .string st, v] 24))) := Lib.hid ((Below.refl _ _).alloc (Nat.le_refl _) _)
  have HG := Lib.hid (fun W (hb : Below w.heap.size w W) => Flds.spec_get v B l hostName W (Flds.holds_below hh (hb.mono hB)) (Nat.le_trans hl (by decide)))
  have HW := Lib.hid (fun W (hb : Below w.heap.size w W) => spec_own v B l W (Flds.holds_below hh (hb.mono hB)) (Nat.le_trans hB hb.size) hl)
  have HTK := Lib.hid (fun W => Tx.spec_token sm W (by omega))
  have HK := Lib.hid (fun w1 (hb : Below (w.alloc (.cells #[.string sm, .string sh, .string st, v] 24)).heap.size (w.alloc (.cells #[.string sm, .string sh, .string st, v] 24)) w1) => And.intro (And.intro ((Kept.one hb).1 0 _ rfl) (And.intro ((Kept.one hb).1 1 _ rfl) (And.intro ((Kept.one hb).1 2 _ rfl) ((Kept.one hb).1 3 _ rfl)))) (Kept.below_in hb))
  unfold Flds.GetEnd hostName at HG
  have hv : decide (0 < (Flds.vals hostName l).length) = Flds.has l hostName := Flds.has_vals l hostName
  unfold hostName at hv
  rw [hv] at HG
  unfold BoolEnd at HW ⊢
  have HR : Hid (∀ a b c, reqRest sm sh st l = (Tx.token sm.data.toList && (decide (1 ≤ sh.size ∧ sh.size ≤ 40) && (decide (1 ≤ st.size ∧ st.size ≤ 100) && (st.data.toList.head? == some 47 && (ownOk l && !Flds.has l [104, 111, 115, 116]))))) ∨ a ∨ b ∨ c) := Lib.hid (fun _ _ _ => Or.inl rfl)
  have HRR : Hid (reqRest sm sh st l = (Tx.token sm.data.toList && (decide (1 ≤ sh.size ∧ sh.size ≤ 40) && (decide (1 ≤ st.size ∧ st.size ≤ 100) && (st.data.toList.head? == some 47 && (ownOk l && !Flds.has l [104, 111, 115, 116])))))) := Lib.hid rfl
  clear hh hl hv HR
  generalize Flds.has l [104, 111, 115, 116] = z5 at HG HRR
  generalize Tx.join (Flds.vals [104, 111, 115, 116] l) = jt at HG
  generalize ownOk l = z4 at HW HRR
  go_enter Tryz.func21, Tryz.ntmps21
  go_wp2
  go_loop [3] (fun i => ∃ k : Nat, k ≤ sm.size ∧ i = .int .i64 k ∧ (sm.data.toList.take k).all nolow = true) (fun i => sm.size - (intOf i).toNat)
  case atStart => exact ⟨0, Nat.zero_le _, rfl, rfl⟩
  case round =>
    obtain ⟨k, hk, rfl, ha⟩ := hrel
    have HA := Lib.hid ha
    clear ha
    by_cases hlt : k < sm.size
    · have hb255 : (sm[k].toNat : Int) ≤ 255 := by have := sm[k].toNat_lt; omega
      rcases hc : nolow sm[k] with _ | _
      · have HE := Lib.hid (bad_m (h := sh.data.toList) (t := st.data.toList) (l := l) (all_bad hlt hc))
        obtain ⟨q1, q2⟩ := nolow_no hc
        clear hc
        go_wp2_with (go_at_call 44; (with_reducible refine (NumDiv.in_yes _ _ _ _ q1 q2).mono ?_); rintro e w' ⟨rfl, rfl⟩)
        go_ret
        exact ⟨ret_b HE.out.symm, HB0.out⟩
      · have HT := Lib.hid (all_more hlt HA.out hc)
        have HQ := Lib.hid (nolow_yes hc)
        clear hc
        go_wp2_with (go_at_call 44; (with_reducible refine (NumDiv.in_no _ _ _ _ HQ.out).mono ?_); rintro e w' ⟨rfl, rfl⟩)
        go_round
        case rel => exact ⟨k + 1, by omega, by go_num, HT.out⟩
        case measure => simp [intOf]; omega
    · have HM := Lib.hid (all_end (show k = sm.size by omega) HA.out)
      clear HA
      go_wp2
      go_loop [4, 5] (fun i j => ∃ k : Nat, k ≤ sh.size ∧ i = .int .i64 k ∧ (sh.data.toList.take k).all hb = true) (fun i _ => sh.size - (intOf i).toNat)
      case atStart => exact ⟨0, Nat.zero_le _, rfl, rfl⟩
      case round =>
        obtain ⟨k, hk, rfl, ha⟩ := hrel
        have HA := Lib.hid ha
        clear ha
        by_cases hlt : k < sh.size
        · have hb255 : (sh[k].toNat : Int) ≤ 255 := by have := sh[k].toNat_lt; omega
          have hmore : hb sh[k] = true → (sh.data.toList.take (k + 1)).all hb = true := fun hc => all_more hlt HA.out hc
          have hbad : hb sh[k] = false → reqOk sm.data.toList sh.data.toList st.data.toList l = false := fun hc => bad_h (all_bad hlt hc)
          have hbne : ∀ (x y : Int) (b : Bool), (x == y) = b → (x != y) = !b := fun x y b h => by rw [bne, h]
          rcases hb_cases sh[k] with ⟨hc, q⟩ | ⟨hc, q1, q2⟩ | ⟨hc, q1, q2, q3⟩ | ⟨hc, q1, q2, q3, q4⟩ | ⟨hc, q1, q2, q3, q4⟩
          · have HT := Lib.hid (hmore hc)
            obtain ⟨q1, q2⟩ := q
            clear hc hmore hbad hbne
            go_wp2_with (go_at_call 44; (with_reducible refine (NumDiv.in_yes _ _ _ _ q1 q2).mono ?_); rintro e w' ⟨rfl, rfl⟩)
            go_round
            case rel => exact ⟨k + 1, by omega, by go_num, HT.out⟩
            case measure => simp [intOf]; omega
          · have HT := Lib.hid (hmore hc)
            have HQ := Lib.hid q1
            obtain ⟨q3, q4⟩ := q2
            clear hc hmore hbad q1 hbne
            go_wp2_with (first | (go_at_call 44; (with_reducible refine (NumDiv.in_yes _ _ _ _ q3 q4).mono ?_); rintro e w' ⟨rfl, rfl⟩) | (go_at_call 44; (with_reducible refine (NumDiv.in_no _ _ _ _ HQ.out).mono ?_); rintro e w' ⟨rfl, rfl⟩))
            go_round
            case rel => exact ⟨k + 1, by omega, by go_num, HT.out⟩
            case measure => simp [intOf]; omega
          · have HT := Lib.hid (hmore hc)
            have HQ := Lib.hid q1
            have HQ2 := Lib.hid q2
            have q5 := hbne _ _ _ q3
            clear hc hmore hbad q1 q2 hbne
            go_wp2_with (first | (go_at_call 44; (with_reducible refine (NumDiv.in_no _ _ _ _ HQ2.out).mono ?_); rintro e w' ⟨rfl, rfl⟩) | (go_at_call 44; (with_reducible refine (NumDiv.in_no _ _ _ _ HQ.out).mono ?_); rintro e w' ⟨rfl, rfl⟩))
            go_round
            case rel => exact ⟨k + 1, by omega, by go_num, HT.out⟩
            case measure => simp [intOf]; omega
          · have HT := Lib.hid (hmore hc)
            have HQ := Lib.hid q1
            have HQ2 := Lib.hid q2
            have q5 := hbne _ _ _ q3
            have q6 := hbne _ _ _ q4
            clear hc hmore hbad q1 q2 hbne
            go_wp2_with (first | (go_at_call 44; (with_reducible refine (NumDiv.in_no _ _ _ _ HQ2.out).mono ?_); rintro e w' ⟨rfl, rfl⟩) | (go_at_call 44; (with_reducible refine (NumDiv.in_no _ _ _ _ HQ.out).mono ?_); rintro e w' ⟨rfl, rfl⟩))
            go_round
            case rel => exact ⟨k + 1, by omega, by go_num, HT.out⟩
            case measure => simp [intOf]; omega
          · have HE := Lib.hid (hbad hc)
            have HQ := Lib.hid q1
            have HQ2 := Lib.hid q2
            have q5 := hbne _ _ _ q3
            have q6 := hbne _ _ _ q4
            clear hc hmore hbad q1 q2 hbne
            go_wp2_with (first | (go_at_call 44; (with_reducible refine (NumDiv.in_no _ _ _ _ HQ2.out).mono ?_); rintro e w' ⟨rfl, rfl⟩) | (go_at_call 44; (with_reducible refine (NumDiv.in_no _ _ _ _ HQ.out).mono ?_); rintro e w' ⟨rfl, rfl⟩))
            go_ret
            exact ⟨ret_b HE.out.symm, HB0.out⟩
        · have HH := Lib.hid (all_end (show k = sh.size by omega) HA.out)
          clear HA
          go_wp2
          go_loop [6] (fun i => ∃ k : Nat, k ≤ st.size ∧ i = .int .i64 k ∧ (st.data.toList.take k).all tb = true) (fun i => st.size - (intOf i).toNat)
          case atStart => exact ⟨0, Nat.zero_le _, rfl, rfl⟩
          case round =>
            obtain ⟨k, hk, rfl, ha⟩ := hrel
            have HA := Lib.hid ha
            clear ha
            by_cases hlt : k < st.size
            · have hb255 : (st[k].toNat : Int) ≤ 255 := by have := st[k].toNat_lt; omega
              rcases hc : tb st[k] with _ | _
              · have HE := Lib.hid (bad_t (m := sm.data.toList) (h := sh.data.toList) (l := l) (all_bad hlt hc))
                have HQ := Lib.hid (tb_no hc)
                clear hc
                go_wp2_with (go_at_call 44; (with_reducible refine (NumDiv.in_no _ _ _ _ HQ.out).mono ?_); rintro e w' ⟨rfl, rfl⟩)
                go_ret
                exact ⟨ret_b HE.out.symm, HB0.out⟩
              · have HT := Lib.hid (all_more hlt HA.out hc)
                obtain ⟨q1, q2⟩ := tb_yes hc
                clear hc
                go_wp2_with (go_at_call 44; (with_reducible refine (NumDiv.in_yes _ _ _ _ q1 q2).mono ?_); rintro e w' ⟨rfl, rfl⟩)
                go_round
                case rel => exact ⟨k + 1, by omega, by go_num, HT.out⟩
                case measure => simp [intOf]; omega
            · have HT := Lib.hid (all_end (show k = st.size by omega) HA.out)
              have HE0 : Hid (reqOk sm.data.toList sh.data.toList st.data.toList l = (Tx.token sm.data.toList && (decide (1 ≤ sh.size ∧ sh.size ≤ 40) && (decide (1 ≤ st.size ∧ st.size ≤ 100) && (st.data.toList.head? == some 47 && (z4 && !z5)))))) := Lib.hid ((rest_of HM.out HH.out HT.out).trans HRR.out)
              clear HA HM HH HT HRR
              go_wp2_with (fail)
              go_at_call 45
              refine (HG.out _ HB0.out).mono ?_
              rintro e w1 ⟨rfl, b1⟩
              obtain ⟨⟨c0, c1, c2, c3⟩, hb1⟩ := HK.out _ b1
              have HB1 := Lib.hid hb1
              have HS1 := Lib.hid b1
              clear b1 hb1
              go_wp2_with (fail)
              go_at_call 46
              refine (HTK.out _).mono ?_
              rintro e w2 ⟨he, rfl⟩
              cases hz1 : Tx.token sm.data.toList with
              | false =>
                rw [hz1] at he
                subst he
                have HE : Hid (reqOk sm.data.toList sh.data.toList st.data.toList l = false) := Lib.hid (by rw [HE0.out, hz1, Bool.false_and])
                clear HE0 hz1
                go_wp2
                go_ret
                exact ⟨ret_b HE.out.symm, HB1.out⟩
              | true =>
              rw [hz1] at he
              subst he
              rw [hz1, Bool.true_and] at HE0
              clear hz1
              by_cases g1 : 1 ≤ (sh.size : Int) ∧ (sh.size : Int) ≤ 40
              case neg =>
                have HE : Hid (reqOk sm.data.toList sh.data.toList st.data.toList l = false) := Lib.hid (by rw [HE0.out, decide_eq_false (by omega), Bool.false_and])
                have HQ := Lib.hid (show (sh.size : Int) < 1 ∨ 40 < (sh.size : Int) by omega)
                clear HE0 g1
                go_wp2_with (fail)
                go_at_call 44
                refine (NumDiv.in_no _ _ _ _ HQ.out).mono ?_
                rintro e w3 ⟨rfl, rfl⟩
                go_wp2
                go_ret
                exact ⟨ret_b HE.out.symm, HB1.out⟩
              rw [decide_eq_true (show 1 ≤ sh.size ∧ sh.size ≤ 40 by omega), Bool.true_and] at HE0
              obtain ⟨g1, g2⟩ := g1
              by_cases g3 : 1 ≤ (st.size : Int) ∧ (st.size : Int) ≤ 100
              case neg =>
                have HE : Hid (reqOk sm.data.toList sh.data.toList st.data.toList l = false) := Lib.hid (by rw [HE0.out, decide_eq_false (by omega), Bool.false_and])
                have HQ := Lib.hid (show (st.size : Int) < 1 ∨ 100 < (st.size : Int) by omega)
                clear HE0 g3
                go_wp2_with (fail)
                go_at_call 44
                refine (NumDiv.in_yes _ _ _ _ g1 g2).mono ?_
                rintro e w3 ⟨rfl, rfl⟩
                go_wp2_with (fail)
                go_at_call 44
                refine (NumDiv.in_no _ _ _ _ HQ.out).mono ?_
                rintro e w3 ⟨rfl, rfl⟩
                go_wp2
                go_ret
                exact ⟨ret_b HE.out.symm, HB1.out⟩
              rw [decide_eq_true (show 1 ≤ st.size ∧ st.size ≤ 100 by omega), Bool.true_and] at HE0
              obtain ⟨g3, g4⟩ := g3
              have hp : 0 < st.size := by omega
              have hhd : st.data.toList.head? = some (st[0]'hp) := by
                obtain ⟨⟨tl⟩⟩ := st
                cases tl with
                | nil => simp [ByteArray.size] at hp
                | cons a r => rfl
              rw [hhd] at HE0
              have h47 : ((some (st[0]'hp) : Option UInt8) == some 47) = (((st[0]'hp).toNat : Int) == 47) := by
                have h9 : (((st[0]'hp).toNat : Int) == 47) = ((st[0]'hp) == 47) := Tx.eq_nat (c := st[0]'hp) (n := 47) (by omega)
                rw [h9]; rfl
              rw [h47] at HE0
              clear hhd h47
              cases hs0 : (((st[0]'hp).toNat : Int) == 47) with
              | false =>
                have HE : Hid (reqOk sm.data.toList sh.data.toList st.data.toList l = false) := Lib.hid (by rw [HE0.out, hs0, Bool.false_and])
                clear HE0
                go_wp2_with (fail)
                go_at_call 44
                refine (NumDiv.in_yes _ _ _ _ g1 g2).mono ?_
                rintro e w3 ⟨rfl, rfl⟩
                go_wp2_with (fail)
                go_at_call 44
                refine (NumDiv.in_yes _ _ _ _ g3 g4).mono ?_
                rintro e w3 ⟨rfl, rfl⟩
                go_wp2
                go_ret
                exact ⟨ret_b HE.out.symm, HB1.out⟩
              | true =>
                rw [hs0, Bool.true_and] at HE0
                cases z4
                all_goals
                  go_wp2_with (fail)
                  go_at_call 44
                  refine (NumDiv.in_yes _ _ _ _ g1 g2).mono ?_
                  rintro e w3 ⟨rfl, rfl⟩
                  go_wp2_with (fail)
                  go_at_call 44
                  refine (NumDiv.in_yes _ _ _ _ g3 g4).mono ?_
                  rintro e w3 ⟨rfl, rfl⟩
                  go_wp2_with (fail)
                  go_at_call 47
                  refine (HW.out _ HB1.out).mono ?_
                  rintro e w4 ⟨rfl, b4⟩
                  have HB4 := Lib.hid (Base.then_below HB1.out b4)
                  clear b4
                  go_wp2
                  go_ret
                  exact ⟨ret_b (by rw [HE0.out]; simp), HB4.out⟩
theorem spec_isq (m h t : List UInt8) (v : Value) (B : Nat) (l : List Flds.Fld) (w : World) (hh : Flds.Holds w B v l) (hB : B ≤ w.heap.size) (hl : Flds.total l ≤ 1048576) (hm : m.length ≤ 1048576) (hhl : h.length ≤ 1048576) (ht : t.length ≤ 1048576) :
    Calls Tryz.prog 21 #[.agg #[.string ⟨m.toArray⟩, .string ⟨h.toArray⟩, .string ⟨t.toArray⟩, v]] w (BoolEnd (reqOk m h t l) w) :=
  spec_isq_s ⟨m.toArray⟩ ⟨h.toArray⟩ ⟨t.toArray⟩ v B l w hh hB hl (by rw [bsz]; exact hm) (by rw [bsz]; exact hhl) (by rw [bsz]; exact ht)
end Go.Proofs.YtfkejnbkglaokaaGreatDoor.Msg

/-
  A REGION THAT DRAWS ITS ORDER, ALSO ONE WITH CALLS THAT MAKE MEMORY: one walk, in the order of the text, in whatever world of a class S that each call keeps.
-/
namespace Go.Proofs.YtfkejnbkglaokaaGreatDoor.RegS
open Go Go.RowKit
set_option linter.unusedVariables false
set_option maxRecDepth 1000000

/-- A world of the class. -/
structure In (S : World → Prop) where
  w : World
  h : S w
theorem region {P : Program} {id : Nat} {Q : Exit → Act → World → Prop} {a : Act} {w : World} {l : List Oper} (S : World → Prop) (hm : P.follows .mixedOrders = true) (hB : Region.lexB .any l.toArray = true) (hS : S w.drew)
    (h : wpQuiet P l.toArray (fun w' => ∃ u : In S, w' = u.w) (fun a' => ∀ w', (∃ u : In S, w' = u.w) → Q .normal a' w') l a) : (Code.region id l.toArray true).wp P Q a w :=
  wp_region_quiet (C := fun w' => ∃ u : In S, w' = u.w) hm hB ⟨⟨w.drew, hS⟩, rfl⟩ (by simpa using h)
theorem call {P : Program} {f : FuncId} {args : Array Value} {S : World → Prop} {u : In S} {v : Value} {E : Ending → World → Prop}
    (h : Calls P f args u.w E) (hE : ∀ e w', E e w' → e = .returned v ∧ S w') : Calls P f args u.w fun e w'' => e = .returned v ∧ ∃ m : In S, w'' = m.w :=
  h.mono fun e w' he => ⟨(hE e w' he).1, ⟨w', (hE e w' he).2⟩, rfl⟩
end Go.Proofs.YtfkejnbkglaokaaGreatDoor.RegS

/-
  A LAW FOR append(built, given...): what the call has built, and behind it a slice that reads as a list of structs, whether nil, empty or not.
-/
namespace Go.Proofs.YtfkejnbkglaokaaGreatDoor.Rec
open Go Go.RowKit
set_option linter.unusedVariables false
set_option maxRecDepth 1000000

theorem run_append_zero {P : Program} {w : World} {base n size c : Nat} {t ty e : TypeId} {i : TypeInfo} {v : Value} {xs : List Value} (hown : w.ownsRow base e size v n xs) (hi : P.info? e = some i) (ht : P.underlying t = some (.slice e)) :
    (Builtin.append_ #[t, t] ty #[v, .slice none 0 c]).run P w = .ok v w := by
  have hu := run_underlying ht
  cases hown.2 with
  | inl h => obtain ⟨rfl, rfl⟩ := h; simp [Builtin.lenOf, Builtin.firstCells, Builtin.append_, sizeOf, typeInfo, hu, hi]
  | inr h => obtain ⟨g, cap, cur, rfl, _, _, hnc, _⟩ := h; simp [Builtin.lenOf, Builtin.firstCells, Builtin.append_, sizeOf, typeInfo, storeCells, hu, hi, hnc]
section
variable {α : Type} {n : Nat} {cs : α → List Value} {z : α}
theorem wp_append_holds (hl : ∀ a, (cs a).length = n) (h1 : ∀ a, ∀ u ∈ cs a, u.oneCell' = true) {P : Program} {w : World} {o : Oper} {a : Act} {K : Act → World → Prop} {Q : Exit → Act → World → Prop}
    (s x : Operand) (t e : TypeId) (ho : o.op = .call { callee := .builtin .append, args := #[s, x], argTypes := #[t, t] }) (ht : P.underlying t = some (.slice e))
    {i : TypeInfo} (hi : P.info? e = some i) {zv : Value} (hz : i.zero = some zv) {bytes : Nat} (hsize : i.size = n) (hby : i.bytes = bytes) (hzs : zv.cells.size = n) (hsz : 0 < n)
    {B base : Nat} {v vx : Value} {l m : List α} (hs : a.eval s = v) (hx : a.eval x = vx) (hown : w.ownsRow base e n v l.length (flat cs l)) (hm : Holds n cs z w B vx m)
    (h63 : l.length + m.length ≤ maxLen) (hbytes : (l.length + m.length) * bytes ≤ 140737488355328) (hbase : base ≤ w.heap.size)
    (h : ∀ v' w', w'.ownsRow base e n v' (l ++ m).length (flat cs (l ++ m)) → w.grownBy w' v.ownBlock → K (a.put o.dst v') w') : o.wp P a w K Q := by
  have key : ∀ (ad : Addr) (cap : Nat), vx = .slice (some ad) m.length cap → (∀ j u, (flat cs m)[j]? = some u → w.cell? (ad.add j) = some u) → o.wp P a w K Q := fun ad cap hv hc =>
    wp_append_own w s x t ho base e i zv n bytes ht hi hz hsize hby hzs hsz v l.length (flat cs l) hs hown ad m.length cap (flat cs m) (hx.trans hv) (flat_len hl m) hc (flat_one h1 m) h63 hbytes hbase
      fun v' w' h2 h3 _ => h v' w' (by rw [List.length_append, flat_append]; exact h2) h3
  rcases hm with ⟨rfl, ad, cap, rfl⟩ | ⟨h0, b, off, cap, rfl, hB, hc, hcell⟩
  · cases ad with
    | some ad => exact key ad cap rfl (fun j u hu => by simp [flat] at hu)
    | none =>
      have hh := h v w (by simpa using hown) (World.grownBy.refl w _)
      have hr := run_append_zero (P := P) (ty := o.type) (c := cap) hown hi ht
      unfold Oper.wp
      simp [hs, hx, hr, ho, execOp, resolve, invoke, builtin, Result.andThen]
      exact hh
  · refine key ⟨b, off, none⟩ cap rfl (fun j u hu => ?_)
    have hlt := (List.getElem?_eq_some_iff.1 hu).1
    rw [flat_len hl] at hlt
    have hj : j / n < m.length := (Nat.div_lt_iff_lt_mul hsz).2 hlt
    have hi' : j % n < (cs (m.getD (j / n) z)).length := by rw [hl]; exact Nat.mod_lt _ hsz
    have e1 : j / n * n + j % n = j := by rw [Nat.mul_comm]; exact Nat.div_add_mod j n
    have h3 := flat_at hl (z := z) (l := m) hj (List.getElem?_eq_getElem hi')
    rw [e1, hu] at h3
    have h4 := hcell (j / n) hj (j % n) _ (List.getElem?_eq_getElem hi')
    rw [Nat.add_assoc, e1] at h4
    rw [WideShapes.add_plain, h4, ← h3]
theorem append_holds (hl : ∀ a, (cs a).length = n) (h1 : ∀ a, ∀ u ∈ cs a, u.oneCell' = true) {P : Program} {w : World} {ops : Array Oper} {rest : List Oper} {o : Oper} {a : Act} {Q : Exit → Act → World → Prop} (hgd : o.guard = none)
    (s x : Operand) (t e : TypeId) (ho : o.op = .call { callee := .builtin .append, args := #[s, x], argTypes := #[t, t] }) (ht : P.underlying t = some (.slice e))
    {i : TypeInfo} (hi : P.info? e = some i) {zv : Value} (hz : i.zero = some zv) {bytes : Nat} (hsize : i.size = n) (hby : i.bytes = bytes) (hzs : zv.cells.size = n) (hsz : 0 < n)
    {B base : Nat} {v vx : Value} {l m : List α} (hs : a.eval s = v) (hx : a.eval x = vx) (hown : w.ownsRow base e n v l.length (flat cs l)) (hm : Holds n cs z w B vx m)
    (h63 : l.length + m.length ≤ maxLen) (hbytes : (l.length + m.length) * bytes ≤ 140737488355328) (hbase : base ≤ w.heap.size)
    (h : ∀ v' w', w'.ownsRow base e n v' (l ++ m).length (flat cs (l ++ m)) → w.grownBy w' v.ownBlock → wpList P ops Q rest (a.put o.dst v') w') : wpList P ops Q (o :: rest) a w :=
  wpList_plain hgd fun _ hK => wp_append_holds hl h1 s x t e ho ht hi hz hsize hby hzs hsz hs hx hown hm h63 hbytes hbase fun v' w' h2 h3 => hK _ _ (h v' w' h2 h3)
/-- At a step of a region that draws its order. -/
theorem step_holds (hl : ∀ a, (cs a).length = n) (h1 : ∀ a, ∀ u ∈ cs a, u.oneCell' = true) {P : Program} {w : World} {ops : Array Oper} {o : Oper} {a : Act} {K : Act → World → Prop} {E : Prop} {Q : Exit → Act → World → Prop} (hgd : o.guard = none)
    (s x : Operand) (t e : TypeId) (ho : o.op = .call { callee := .builtin .append, args := #[s, x], argTypes := #[t, t] }) (ht : P.underlying t = some (.slice e))
    {i : TypeInfo} (hi : P.info? e = some i) {zv : Value} (hz : i.zero = some zv) {bytes : Nat} (hsize : i.size = n) (hby : i.bytes = bytes) (hzs : zv.cells.size = n) (hsz : 0 < n)
    {B base : Nat} {v vx : Value} {l m : List α} (hs : a.eval s = v) (hx : a.eval x = vx) (hown : w.ownsRow base e n v l.length (flat cs l)) (hm : Holds n cs z w B vx m)
    (h63 : l.length + m.length ≤ maxLen) (hbytes : (l.length + m.length) * bytes ≤ 140737488355328) (hbase : base ≤ w.heap.size)
    (h : ∀ v' w', w'.ownsRow base e n v' (l ++ m).length (flat cs (l ++ m)) → w.grownBy w' v.ownBlock → K (a.put o.dst v') w') : if Region.wanted o (yielded ops a.tmps) = true then Oper.wp P o a w K Q else E := by
  have hw : Region.wanted o (yielded ops a.tmps) = true := by simp [Region.wanted, hgd]
  rw [if_pos hw]
  exact wp_append_holds hl h1 s x t e ho ht hi hz hsize hby hzs hsz hs hx hown hm h63 hbytes hbase h
end
end Go.Proofs.YtfkejnbkglaokaaGreatDoor.Rec
