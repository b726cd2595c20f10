/-
  CONTRACTS AND PLAIN FACTS, several texts in one; each says in its own words what it proves.
-/
import Derived.Test.YtojmkdggkaocdaaGreatDoorPvAK
import Derived.Test.YtojmkdggkaocdaaGreatDoorPvAM
import Derived.Test.YtojmkdggkaocdaaGreatDoorPvM
import Derived.Test.YtojmkdggkaocdaaGreatDoorPvD
import Derived.Test.YtojmkdggkaocdaaGreatDoorPvI

/-
  CONTRACTS of what is a valid request (the model's IsRequest; the program's isMethod, isHost, isTarget, isValid and IsRequest); nothing that was there before is changed.
-/
namespace Go.Proofs.YtojmkdggkaocdaaGreatDoor.Msg
open Go Go.RowKit
set_option linter.unusedVariables false
set_option maxRecDepth 1000000

def hostName : List UInt8 := [104, 111, 115, 116]
def reqOk (m h t : List UInt8) (l : List Flds.Fld) : Bool := (methOk m && hostOk h && targOk t) && (ownOk l && !Flds.has l hostName)
theorem bsz (y : List UInt8) : (⟨y.toArray⟩ : ByteArray).size = y.length := by simp [ByteArray.size]

set_option maxHeartbeats 1000000 in
theorem impl_method (m : List UInt8) (w : World) (hm : m.length ≤ 1048576) :
    Calls Tryz.prog 151 #[.string ⟨m.toArray⟩] w (BoolEnd (methOk m) w) := by
  have HT : Hid (∀ W : World, Calls Tryz.prog 113 #[.string ⟨m.toArray⟩] W fun e w' => e = .returned (.bool (Tx.token m)) ∧ W = w') := Lib.hid (fun W => Tx.impl_token ⟨m.toArray⟩ W (by rw [bsz]; omega))
  have HO : Hid (methOk m = (m.all nolow && Tx.token m)) := Lib.hid rfl
  unfold BoolEnd
  cases hz : Tx.token m with
  | false =>
    have HE : Hid (methOk m = false) := Lib.hid (by rw [HO.out, hz, Bool.and_false])
    rw [hz] at HT
    clear hz HO
    go_enter Tryz.func151, Tryz.ntmps151
    go_wp2_with (fail)
    go_at_call 113
    refine (HT.out _).mono ?_
    rintro e w1 ⟨rfl, rfl⟩
    go_wp2
    go_ret
    exact ⟨ret_b HE.out.symm, Below.refl _ _⟩
  | true =>
    have HU : Hid (∀ W : World, Calls Tryz.prog 189 #[.string ⟨m.toArray⟩] W fun e w' => e = .returned (.string ⟨(Lib.toUpperA m).toArray⟩) ∧ Below W.heap.size W w') := Lib.hid (fun W => Tryz.strings_ToUpper_ascii ⟨m.toArray⟩ W (by rw [bsz]; omega) (token_ascii hz))
    have HE : Hid (methOk m = decide (Lib.toUpperA m = m)) := Lib.hid (by rw [HO.out, hz, Bool.and_true, Bool.eq_iff_iff, decide_eq_true_iff]; exact (upper_same m).symm)
    rw [hz] at HT
    clear hz HO
    generalize Lib.toUpperA m = u at HU HE
    by_cases hu : u = m
    · subst hu
      have HF : Hid (methOk u = true) := Lib.hid (by rw [HE.out]; simp)
      clear HE
      go_enter Tryz.func151, Tryz.ntmps151
      go_wp2_with (fail)
      go_at_call 113
      refine (HT.out _).mono ?_
      rintro e w1 ⟨rfl, rfl⟩
      go_wp2_with (fail)
      go_at_call 189
      refine (HU.out _).mono ?_
      rintro e w1 ⟨rfl, hb1⟩
      have HB := Lib.hid hb1
      clear hb1
      go_wp2
      go_ret
      exact ⟨ret_b HF.out.symm, HB.out⟩
    · have HF : Hid (methOk m = false) := Lib.hid (by rw [HE.out, decide_eq_false hu])
      have hq : (u == m) = false := by simpa using hu
      clear HE hu
      go_enter Tryz.func151, Tryz.ntmps151
      go_wp2_with (fail)
      go_at_call 113
      refine (HT.out _).mono ?_
      rintro e w1 ⟨rfl, rfl⟩
      go_wp2_with (fail)
      go_at_call 189
      refine (HU.out _).mono ?_
      rintro e w1 ⟨rfl, hb1⟩
      have HB := Lib.hid hb1
      clear hb1
      go_wp2
      go_ret
      exact ⟨ret_b HF.out.symm, HB.out⟩

set_option maxHeartbeats 1000000 in
theorem impl_host (h : List UInt8) (w : World) (hh : h.length ≤ 1048576) :
    Calls Tryz.prog 152 #[.string ⟨h.toArray⟩] w (BoolEnd (hostOk h) w) := by
  have hsz := bsz h
  have HO : Hid (hostOk h = (h.all hb && decide (1 ≤ h.length ∧ h.length ≤ 40))) := Lib.hid rfl
  have HT : Hid (∀ W : World, Calls Tryz.prog 190 #[.string ⟨h.toArray⟩, .string ⟨#[97, 98, 99, 100, 101, 102, 103, 104, 105, 106, 107, 108, 109, 110, 111, 112, 113, 114, 115, 116, 117, 118, 119, 120, 121, 122, 48, 49, 50, 51, 52, 53, 54, 55, 56, 57, 45, 46]⟩] W fun e w' => e = .returned (.string ⟨(Lib.trimS h hbs).toArray⟩) ∧ Below W.heap.size W w') :=
    Lib.hid (fun W => Tryz.strings_Trim_laid ⟨h.toArray⟩ ⟨#[97, 98, 99, 100, 101, 102, 103, 104, 105, 106, 107, 108, 109, 110, 111, 112, 113, 114, 115, 116, 117, 118, 119, 120, 121, 122, 48, 49, 50, 51, 52, 53, 54, 55, 56, 57, 45, 46]⟩ W (by rw [bsz]; omega) (by decide) (by
      intro j b hj
      have hall : ∀ x ∈ hbs, x.toNat < 128 := by decide
      exact hall b (List.mem_of_getElem? hj)))
  unfold BoolEnd
  by_cases h1 : 1 ≤ (h.length : Int)
  case neg =>
    have HE : Hid (hostOk h = false) := Lib.hid (by rw [HO.out, decide_eq_false (by omega), Bool.and_false])
    clear HO HT
    go_enter Tryz.func152, Tryz.ntmps152
    go_wp2
    go_ret
    exact ⟨ret_b HE.out.symm, Below.refl _ _⟩
  by_cases h2 : (h.length : Int) ≤ 40
  case neg =>
    have HE : Hid (hostOk h = false) := Lib.hid (by rw [HO.out, decide_eq_false (by omega), Bool.and_false])
    clear HO HT
    go_enter Tryz.func152, Tryz.ntmps152
    go_wp2
    go_ret
    exact ⟨ret_b HE.out.symm, Below.refl _ _⟩
  have HE : Hid (hostOk h = decide (Lib.trimS h hbs = [])) := Lib.hid (by rw [HO.out, decide_eq_true (by omega), Bool.and_true, Bool.eq_iff_iff, decide_eq_true_iff]; exact (trim_hb h).symm)
  clear HO
  generalize Lib.trimS h hbs = u at HT HE
  by_cases hu : u = []
  · subst hu
    have HF : Hid (hostOk h = true) := Lib.hid (by rw [HE.out]; rfl)
    clear HE
    go_enter Tryz.func152, Tryz.ntmps152
    go_wp2_with (fail)
    go_at_call 190
    refine (HT.out _).mono ?_
    rintro e w1 ⟨rfl, hb1⟩
    have HB := Lib.hid hb1
    clear hb1
    go_wp2
    go_ret
    exact ⟨ret_b HF.out.symm, HB.out⟩
  · have HF : Hid (hostOk h = false) := Lib.hid (by rw [HE.out, decide_eq_false hu])
    have hq : (u == []) = false := by simpa using hu
    clear HE
    go_enter Tryz.func152, Tryz.ntmps152
    go_wp2_with (fail)
    go_at_call 190
    refine (HT.out _).mono ?_
    rintro e w1 ⟨rfl, hb1⟩
    have HB := Lib.hid hb1
    clear hb1
    go_wp2
    go_ret
    exact ⟨ret_b HF.out.symm, HB.out⟩

theorem pre47 (s : ByteArray) : Lib.hasPrefix s.data.toList [47] = (s.data.toList.head? == some 47) := by
  cases s.data.toList with
  | nil => rfl
  | cons a t =>
    unfold Lib.hasPrefix
    have : (47 == a) = (a == 47) := by rw [Bool.eq_iff_iff]; simp; exact eq_comm
    simp [List.isPrefixOf, this]
set_option maxHeartbeats 1000000 in
theorem impl_targ_s (s : ByteArray) (w : World) (hs : s.size ≤ 1048576) :
    Calls Tryz.prog 153 #[.string s] w (BoolEnd (targOk s.data.toList) w) := by
  have HO : Hid (targOk s.data.toList = (s.data.toList.all tb && (decide (1 ≤ s.size ∧ s.size ≤ 100) && s.data.toList.head? == some 47))) := Lib.hid (by unfold targOk; rw [Tx.list_len])
  have HP : Hid (∀ W : World, Calls Tryz.prog 148 #[.string s, .string ⟨#[47]⟩] W fun e w' => e = .returned (.bool (Lib.hasPrefix s.data.toList [47])) ∧ w' = W) := Lib.hid (fun W => Tryz.strings_HasPrefix s ⟨#[47]⟩ W)
  rw [pre47] at HP
  unfold BoolEnd
  by_cases h1 : 100 < (s.size : Int)
  · have HE : Hid (targOk s.data.toList = false) := Lib.hid (by rw [HO.out, decide_eq_false (by omega), Bool.false_and, Bool.and_false])
    clear HO HP
    go_enter Tryz.func153, Tryz.ntmps153
    go_wp2
    go_ret
    exact ⟨ret_b HE.out.symm, Below.refl _ _⟩
  cases hp : (s.data.toList.head? == some 47) with
  | false =>
    have HE : Hid (targOk s.data.toList = false) := Lib.hid (by rw [HO.out, hp, Bool.and_false, Bool.and_false])
    rw [hp] at HP
    clear HO hp
    go_enter Tryz.func153, Tryz.ntmps153
    go_wp2_with (fail)
    go_at_call 148
    refine (HP.out _).mono ?_
    rintro e w1 ⟨rfl, hw⟩
    rw [hw]
    go_wp2
    go_ret
    exact ⟨ret_b HE.out.symm, Below.refl _ _⟩
  | true =>
    have HE : Hid (targOk s.data.toList = s.data.toList.all tb) := Lib.hid (by
      have h0 : 1 ≤ s.size := by
        rw [← Tx.list_len]
        cases hl : s.data.toList with
        | nil => rw [hl] at hp; cases hp
        | cons a t => simp
      rw [HO.out, hp, decide_eq_true (by omega), Bool.and_true, Bool.and_true])
    rw [hp] at HP
    clear HO hp
    go_enter Tryz.func153, Tryz.ntmps153
    go_wp2_with (fail)
    go_at_call 148
    refine (HP.out _).mono ?_
    rintro e w1 ⟨rfl, hw⟩
    rw [hw]
    clear hw
    go_wp2
    go_loop [3, 14] (fun j i => ∃ k : Nat, k ≤ s.size ∧ i = .int .i64 k ∧ (s.data.toList.take k).all tb = true) (fun _ i => s.size - (intOf i).toNat)
    case atStart => exact ⟨0, Nat.zero_le _, rfl, rfl⟩
    case round =>
      obtain ⟨k, hk, rfl, ha⟩ := hrel
      have HA := Lib.hid ha
      clear ha
      by_cases hlt : k < s.size
      · have hb255 : (s[k].toNat : Int) ≤ 255 := by have := s[k].toNat_lt; omega
        rcases hc : tb s[k] with _ | _
        · have HT := Lib.hid (all_bad hlt hc)
          rcases tb_no hc with q | q
          · have q1 : (s[k].toNat : Int) ≤ 32 := by omega
            clear hc q
            go_wp2
            go_ret
            exact ⟨ret_b (by rw [HE.out, HT.out]), Below.refl _ _⟩
          · have q1 : ¬ (s[k].toNat : Int) ≤ 32 := by omega
            clear hc
            go_wp2
            go_ret
            exact ⟨ret_b (by rw [HE.out, HT.out]), Below.refl _ _⟩
        · have HT := Lib.hid (all_more hlt HA.out hc)
          obtain ⟨q1, q2⟩ := tb_yes hc
          have q3 : ¬ (s[k].toNat : Int) ≤ 32 := by omega
          have q4 : ¬ 126 < (s[k].toNat : Int) := by omega
          clear hc q1 q2
          go_wp2
          go_round
          case rel => exact ⟨k + 1, by omega, by go_num, HT.out⟩
          case measure => simp [intOf]; omega
      · have HT := Lib.hid (all_end (show k = s.size by omega) HA.out)
        go_wp2
        go_ret
        exact ⟨ret_b (by rw [HE.out, HT.out]), Below.refl _ _⟩
theorem impl_targ (t : List UInt8) (w : World) (ht : t.length ≤ 1048576) :
    Calls Tryz.prog 153 #[.string ⟨t.toArray⟩] w (BoolEnd (targOk t) w) := impl_targ_s ⟨t.toArray⟩ w (by rw [bsz]; exact ht)

set_option maxRecDepth 1000000 in
set_option maxHeartbeats 2000000 in
theorem impl_valid_req (m h t : List UInt8) (v : Value) (B : Nat) (l : List Flds.Fld) (w : World) (hh : Flds.Holds w B v l) (hB : B ≤ w.heap.size) (hl : Flds.total l ≤ 1048576) (hm : m.length ≤ 1048576) (hhl : h.length ≤ 1048576) (ht : t.length ≤ 1048576) :
    Calls Tryz.prog 120 #[.agg #[.string ⟨m.toArray⟩, .string ⟨h.toArray⟩, .string ⟨t.toArray⟩, v]] w (BoolEnd (reqOk m h t l) w) := by
  have HB0 : Hid (Below w.heap.size w (w.alloc (.cells #[.string ⟨m.toArray⟩, .string ⟨h.toArray⟩, .string ⟨t.toArray⟩, v] 62))) := Lib.hid ((Below.refl _ _).alloc (Nat.le_refl _) _)
  have H1 := Lib.hid (fun W => impl_method m W hm)
  have H2 := Lib.hid (fun W => impl_host h W hhl)
  have H3 := Lib.hid (fun W => impl_targ t W ht)
  have H4 := Lib.hid (fun (W : World) (hb : Below w.heap.size w W) => impl_own v B l W (Flds.holds_below hh (hb.mono hB)) (Nat.le_trans hB hb.size) hl)
  have H5 := Lib.hid (fun (W : World) (hb : Below w.heap.size w W) => Flds.impl_has v B l hostName W (Flds.holds_below hh (hb.mono hB)) (Nat.le_trans hB hb.size) (len_total hl))
  have HO : Hid (reqOk m h t l = ((methOk m && hostOk h && targOk t) && (ownOk l && !Flds.has l hostName))) := Lib.hid rfl
  have HK := Lib.hid (fun w1 (hb : Below (w.alloc (.cells #[.string ⟨m.toArray⟩, .string ⟨h.toArray⟩, .string ⟨t.toArray⟩, v] 62)).heap.size (w.alloc (.cells #[.string ⟨m.toArray⟩, .string ⟨h.toArray⟩, .string ⟨t.toArray⟩, v] 62)) w1) => And.intro (And.intro ((Kept.one hb).1 0 _ rfl) (And.intro ((Kept.one hb).1 1 _ rfl) (And.intro ((Kept.one hb).1 2 _ rfl) ((Kept.one hb).1 3 _ rfl)))) (Kept.below_in hb))
  unfold BoolEnd at *
  unfold hostName at H5 HO
  clear hh hl
  generalize methOk m = z1 at H1 HO
  generalize hostOk h = z2 at H2 HO
  generalize targOk t = z3 at H3 HO
  generalize ownOk l = z4 at H4 HO
  generalize Flds.has l [104, 111, 115, 116] = z5 at H5 HO
  cases z1 with
  | false =>
    have HE : Hid (reqOk m h t l = false) := Lib.hid (by rw [HO.out]; simp)
    clear HO
    go_enter Tryz.func120, Tryz.ntmps120
    go_wp2_with (fail)
    go_at_call 151
    refine (H1.out _).mono ?_
    rintro e w1 ⟨rfl, b1⟩
    have HB1 := Lib.hid (HK.out _ b1).2
    clear b1
    go_wp2
    go_ret
    exact ⟨ret_b HE.out.symm, HB1.out⟩
  | true =>
  cases z2 with
  | false =>
    have HE : Hid (reqOk m h t l = false) := Lib.hid (by rw [HO.out]; simp)
    clear HO
    go_enter Tryz.func120, Tryz.ntmps120
    go_wp2_with (fail)
    go_at_call 151
    refine (H1.out _).mono ?_
    rintro e w1 ⟨rfl, b1⟩
    obtain ⟨⟨c0, c1, c2, c3⟩, hb1⟩ := HK.out _ b1
    have HS1 := Lib.hid b1
    clear b1 hb1
    go_wp2_with (fail)
    go_at_call 152
    refine (H2.out _).mono ?_
    rintro e w2 ⟨rfl, b2⟩
    clear c0 c1 c2 c3
    have HS2 := Lib.hid (Base.then_below HS1.out b2)
    have HB2 := Lib.hid (HK.out _ HS2.out).2
    clear b2
    go_wp2
    go_ret
    exact ⟨ret_b HE.out.symm, HB2.out⟩
  | true =>
  cases z3 with
  | false =>
    have HE : Hid (reqOk m h t l = false) := Lib.hid (by rw [HO.out]; simp)
    clear HO
    go_enter Tryz.func120, Tryz.ntmps120
    go_wp2_with (fail)
    go_at_call 151
    refine (H1.out _).mono ?_
    rintro e w1 ⟨rfl, b1⟩
    obtain ⟨⟨c0, c1, c2, c3⟩, hb1⟩ := HK.out _ b1
    have HS1 := Lib.hid b1
    clear b1 hb1
    go_wp2_with (fail)
    go_at_call 152
    refine (H2.out _).mono ?_
    rintro e w2 ⟨rfl, b2⟩
    clear c0 c1 c2 c3
    have HS2 := Lib.hid (Base.then_below HS1.out b2)
    obtain ⟨⟨c0, c1, c2, c3⟩, hb2⟩ := HK.out _ HS2.out
    clear b2 hb2
    go_wp2_with (fail)
    go_at_call 153
    refine (H3.out _).mono ?_
    rintro e w3 ⟨rfl, b3⟩
    clear c0 c1 c2 c3
    have HB3 := Lib.hid (HK.out _ (Base.then_below HS2.out b3)).2
    clear b3
    go_wp2
    go_ret
    exact ⟨ret_b HE.out.symm, HB3.out⟩
  | true =>
  cases z4 with
  | false =>
    have HE : Hid (reqOk m h t l = false) := Lib.hid (by rw [HO.out]; simp)
    clear HO
    go_enter Tryz.func120, Tryz.ntmps120
    go_wp2_with (fail)
    go_at_call 151
    refine (H1.out _).mono ?_
    rintro e w1 ⟨rfl, b1⟩
    obtain ⟨⟨c0, c1, c2, c3⟩, hb1⟩ := HK.out _ b1
    have HS1 := Lib.hid b1
    clear b1 hb1
    go_wp2_with (fail)
    go_at_call 152
    refine (H2.out _).mono ?_
    rintro e w2 ⟨rfl, b2⟩
    clear c0 c1 c2 c3
    have HS2 := Lib.hid (Base.then_below HS1.out b2)
    obtain ⟨⟨c0, c1, c2, c3⟩, hb2⟩ := HK.out _ HS2.out
    clear b2 hb2
    go_wp2_with (fail)
    go_at_call 153
    refine (H3.out _).mono ?_
    rintro e w3 ⟨rfl, b3⟩
    clear c0 c1 c2 c3
    have HS3 := Lib.hid (Base.then_below HS2.out b3)
    obtain ⟨⟨c0, c1, c2, c3⟩, hb3⟩ := HK.out _ HS3.out
    have HB3 := Lib.hid hb3
    clear b3 hb3
    go_wp2_with (fail)
    go_at_call 154
    refine (H4.out _ HB3.out).mono ?_
    rintro e w4 ⟨rfl, b4⟩
    clear c0 c1 c2 c3
    have HB4 := Lib.hid (HK.out _ (Base.then_below HS3.out b4)).2
    clear b4
    go_wp2
    go_ret
    exact ⟨ret_b HE.out.symm, HB4.out⟩
  | true =>
    have HE : Hid (reqOk m h t l = !z5) := Lib.hid (by rw [HO.out]; simp)
    clear HO
    go_enter Tryz.func120, Tryz.ntmps120
    go_wp2_with (fail)
    go_at_call 151
    refine (H1.out _).mono ?_
    rintro e w1 ⟨rfl, b1⟩
    obtain ⟨⟨c0, c1, c2, c3⟩, hb1⟩ := HK.out _ b1
    have HS1 := Lib.hid b1
    clear b1 hb1
    go_wp2_with (fail)
    go_at_call 152
    refine (H2.out _).mono ?_
    rintro e w2 ⟨rfl, b2⟩
    clear c0 c1 c2 c3
    have HS2 := Lib.hid (Base.then_below HS1.out b2)
    obtain ⟨⟨c0, c1, c2, c3⟩, hb2⟩ := HK.out _ HS2.out
    clear b2 hb2
    go_wp2_with (fail)
    go_at_call 153
    refine (H3.out _).mono ?_
    rintro e w3 ⟨rfl, b3⟩
    clear c0 c1 c2 c3
    have HS3 := Lib.hid (Base.then_below HS2.out b3)
    obtain ⟨⟨c0, c1, c2, c3⟩, hb3⟩ := HK.out _ HS3.out
    have HB3 := Lib.hid hb3
    clear b3 hb3
    go_wp2_with (fail)
    go_at_call 154
    refine (H4.out _ HB3.out).mono ?_
    rintro e w4 ⟨rfl, b4⟩
    clear c0 c1 c2 c3
    have HS4 := Lib.hid (Base.then_below HS3.out b4)
    obtain ⟨⟨c0, c1, c2, c3⟩, hb4⟩ := HK.out _ HS4.out
    have HB4 := Lib.hid hb4
    clear b4 hb4
    go_wp2_with (fail)
    go_at_call 155
    refine (H5.out _ HB4.out).mono ?_
    rintro e w5 ⟨rfl, b5⟩
    clear c0 c1 c2 c3
    have HB5 := Lib.hid (HK.out _ (Base.then_below HS4.out b5)).2
    clear b5
    go_wp2
    go_ret
    exact ⟨ret_b HE.out.symm, HB5.out⟩

end Go.Proofs.YtojmkdggkaocdaaGreatDoor.Msg
