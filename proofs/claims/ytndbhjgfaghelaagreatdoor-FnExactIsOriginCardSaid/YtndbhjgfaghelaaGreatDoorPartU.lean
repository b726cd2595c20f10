/-
  CONTRACTS AND PLAIN FACTS, several texts in one; each says in its own words what it proves.
-/
import Derived.Test.YtndbhjgfaghelaaGreatDoorPartT
import Derived.Test.YtndbhjgfaghelaaGreatDoorPartF
import Derived.Test.YtndbhjgfaghelaaGreatDoorPartB
import Derived.Test.YtndbhjgfaghelaaGreatDoorPartE
import Derived.LoopTactic
import Derived.Outline
import Derived.Carry
import Derived.Maps.OwnSet
import Derived.Maps.OwnOps
import Derived.Maps.Views
set_option linter.unusedSimpArgs false
set_option linter.unusedVariables false

/-
  CONTRACT of the model's IsRequest; nothing that was there before is changed.
-/
namespace Go.Proofs.YtndbhjgfaghelaaGreatDoor.Msg
open Go Go.RowKit
set_option linter.unusedVariables false
set_option maxRecDepth 1000000

/-- What is left to ask when all bytes are of their kinds. -/
def reqRest (sm sh st : ByteArray) (l : List Flds.Fld) : Bool := Tx.token sm.data.toList && (decide (1 ≤ sh.size ∧ sh.size ≤ 40) && (decide (1 ≤ st.size ∧ st.size ≤ 100) && (st.data.toList.head? == some 47 && (ownOk l && !Flds.has l hostName))))
theorem rest_of {sm sh st : ByteArray} {l : List Flds.Fld} (h1 : sm.data.toList.all nolow = true) (h2 : sh.data.toList.all hb = true) (h3 : st.data.toList.all tb = true) : reqOk sm.data.toList sh.data.toList st.data.toList l = reqRest sm sh st l := by
  unfold reqOk methOk hostOk targOk reqRest
  rw [h1, h2, h3, Tx.list_len, Tx.list_len]
  simp only [Bool.true_and, Bool.and_assoc]
theorem bad_m {m h t : List UInt8} {l : List Flds.Fld} (e : m.all nolow = false) : reqOk m h t l = false := by unfold reqOk methOk; rw [e]; simp
theorem bad_h {m h t : List UInt8} {l : List Flds.Fld} (e : h.all hb = false) : reqOk m h t l = false := by unfold reqOk hostOk; rw [e]; simp
theorem bad_t {m h t : List UInt8} {l : List Flds.Fld} (e : t.all tb = false) : reqOk m h t l = false := by unfold reqOk targOk; rw [e]; simp

set_option maxRecDepth 1000000 in
set_option maxHeartbeats 4000000 in
theorem spec_isq_s (sm sh st : ByteArray) (v : Value) (B : Nat) (l : List Flds.Fld) (w : World) (hh : Flds.Holds w B v l) (hB : B ≤ w.heap.size) (hl : Flds.total l ≤ 1048576) (hm : sm.size ≤ 1048576) (hhl : sh.size ≤ 1048576) (ht : st.size ≤ 1048576) :
    Calls Tryz.prog 71 #[.agg #[.string sm, .string sh, .string st, v]] w (BoolEnd (reqOk sm.data.toList sh.data.toList st.data.toList l) w) := by
  have HB0 : Hid (Below w.heap.size w (w.alloc (.cells #[.string sm, .string sh, .string st, v] 48))) := Lib.hid ((Below.refl _ _).alloc (Nat.le_refl _) _)
  have HG := Lib.hid (fun W (hb : Below w.heap.size w W) => Flds.spec_get v B l hostName W (Flds.holds_below hh (hb.mono hB)) (Nat.le_trans hl (by decide)))
  have HW := Lib.hid (fun W (hb : Below w.heap.size w W) => spec_own v B l W (Flds.holds_below hh (hb.mono hB)) (Nat.le_trans hB hb.size) hl)
  have HTK := Lib.hid (fun W => Tx.spec_token sm W (by omega))
  have HK := Lib.hid (fun w1 (hb : Below (w.alloc (.cells #[.string sm, .string sh, .string st, v] 48)).heap.size (w.alloc (.cells #[.string sm, .string sh, .string st, v] 48)) w1) => And.intro (And.intro ((Kept.one hb).1 0 _ rfl) (And.intro ((Kept.one hb).1 1 _ rfl) (And.intro ((Kept.one hb).1 2 _ rfl) ((Kept.one hb).1 3 _ rfl)))) (Kept.below_in hb))
  unfold Flds.GetEnd hostName at HG
  have hv : decide (0 < (Flds.vals hostName l).length) = Flds.has l hostName := Flds.has_vals l hostName
  unfold hostName at hv
  rw [hv] at HG
  unfold BoolEnd at HW ⊢
  have HR : Hid (∀ a b c, reqRest sm sh st l = (Tx.token sm.data.toList && (decide (1 ≤ sh.size ∧ sh.size ≤ 40) && (decide (1 ≤ st.size ∧ st.size ≤ 100) && (st.data.toList.head? == some 47 && (ownOk l && !Flds.has l [104, 111, 115, 116]))))) ∨ a ∨ b ∨ c) := Lib.hid (fun _ _ _ => Or.inl rfl)
  have HRR : Hid (reqRest sm sh st l = (Tx.token sm.data.toList && (decide (1 ≤ sh.size ∧ sh.size ≤ 40) && (decide (1 ≤ st.size ∧ st.size ≤ 100) && (st.data.toList.head? == some 47 && (ownOk l && !Flds.has l [104, 111, 115, 116])))))) := Lib.hid rfl
  clear hh hl hv HR
  generalize Flds.has l [104, 111, 115, 116] = z5 at HG HRR
  generalize Tx.join (Flds.vals [104, 111, 115, 116] l) = jt at HG
  generalize ownOk l = z4 at HW HRR
  go_enter Tryz.func71, Tryz.ntmps71
  go_wp2
  go_loop [3] (fun i => ∃ k : Nat, k ≤ sm.size ∧ i = .int .i64 k ∧ (sm.data.toList.take k).all nolow = true) (fun i => sm.size - (intOf i).toNat)
  case atStart => exact ⟨0, Nat.zero_le _, rfl, rfl⟩
  case round =>
    obtain ⟨k, hk, rfl, ha⟩ := hrel
    have HA := Lib.hid ha
    clear ha
    by_cases hlt : k < sm.size
    · have hb255 : (sm[k].toNat : Int) ≤ 255 := by have := sm[k].toNat_lt; omega
      rcases hc : nolow sm[k] with _ | _
      · have HE := Lib.hid (bad_m (h := sh.data.toList) (t := st.data.toList) (l := l) (all_bad hlt hc))
        obtain ⟨q1, q2⟩ := nolow_no hc
        clear hc
        go_wp2_with (go_at_call 90; (with_reducible refine (NumDiv.in_yes _ _ _ _ q1 q2).mono ?_); rintro e w' ⟨rfl, rfl⟩)
        go_ret
        exact ⟨ret_b HE.out.symm, HB0.out⟩
      · have HT := Lib.hid (all_more hlt HA.out hc)
        have HQ := Lib.hid (nolow_yes hc)
        clear hc
        go_wp2_with (go_at_call 90; (with_reducible refine (NumDiv.in_no _ _ _ _ HQ.out).mono ?_); rintro e w' ⟨rfl, rfl⟩)
        go_round
        case rel => exact ⟨k + 1, by omega, by go_num, HT.out⟩
        case measure => simp [intOf]; omega
    · have HM := Lib.hid (all_end (show k = sm.size by omega) HA.out)
      clear HA
      go_wp2
      go_loop [4, 5] (fun i j => ∃ k : Nat, k ≤ sh.size ∧ i = .int .i64 k ∧ (sh.data.toList.take k).all hb = true) (fun i _ => sh.size - (intOf i).toNat)
      case atStart => exact ⟨0, Nat.zero_le _, rfl, rfl⟩
      case round =>
        obtain ⟨k, hk, rfl, ha⟩ := hrel
        have HA := Lib.hid ha
        clear ha
        by_cases hlt : k < sh.size
        · have hb255 : (sh[k].toNat : Int) ≤ 255 := by have := sh[k].toNat_lt; omega
          have hmore : hb sh[k] = true → (sh.data.toList.take (k + 1)).all hb = true := fun hc => all_more hlt HA.out hc
          have hbad : hb sh[k] = false → reqOk sm.data.toList sh.data.toList st.data.toList l = false := fun hc => bad_h (all_bad hlt hc)
          have hbne : ∀ (x y : Int) (b : Bool), (x == y) = b → (x != y) = !b := fun x y b h => by rw [bne, h]
          rcases hb_cases sh[k] with ⟨hc, q⟩ | ⟨hc, q1, q2⟩ | ⟨hc, q1, q2, q3⟩ | ⟨hc, q1, q2, q3, q4⟩ | ⟨hc, q1, q2, q3, q4⟩
          · have HT := Lib.hid (hmore hc)
            obtain ⟨q1, q2⟩ := q
            clear hc hmore hbad hbne
            go_wp2_with (go_at_call 90; (with_reducible refine (NumDiv.in_yes _ _ _ _ q1 q2).mono ?_); rintro e w' ⟨rfl, rfl⟩)
            go_round
            case rel => exact ⟨k + 1, by omega, by go_num, HT.out⟩
            case measure => simp [intOf]; omega
          · have HT := Lib.hid (hmore hc)
            have HQ := Lib.hid q1
            obtain ⟨q3, q4⟩ := q2
            clear hc hmore hbad q1 hbne
            go_wp2_with (first | (go_at_call 90; (with_reducible refine (NumDiv.in_yes _ _ _ _ q3 q4).mono ?_); rintro e w' ⟨rfl, rfl⟩) | (go_at_call 90; (with_reducible refine (NumDiv.in_no _ _ _ _ HQ.out).mono ?_); rintro e w' ⟨rfl, rfl⟩))
            go_round
            case rel => exact ⟨k + 1, by omega, by go_num, HT.out⟩
            case measure => simp [intOf]; omega
          · have HT := Lib.hid (hmore hc)
            have HQ := Lib.hid q1
            have HQ2 := Lib.hid q2
            have q5 := hbne _ _ _ q3
            clear hc hmore hbad q1 q2 hbne
            go_wp2_with (first | (go_at_call 90; (with_reducible refine (NumDiv.in_no _ _ _ _ HQ2.out).mono ?_); rintro e w' ⟨rfl, rfl⟩) | (go_at_call 90; (with_reducible refine (NumDiv.in_no _ _ _ _ HQ.out).mono ?_); rintro e w' ⟨rfl, rfl⟩))
            go_round
            case rel => exact ⟨k + 1, by omega, by go_num, HT.out⟩
            case measure => simp [intOf]; omega
          · have HT := Lib.hid (hmore hc)
            have HQ := Lib.hid q1
            have HQ2 := Lib.hid q2
            have q5 := hbne _ _ _ q3
            have q6 := hbne _ _ _ q4
            clear hc hmore hbad q1 q2 hbne
            go_wp2_with (first | (go_at_call 90; (with_reducible refine (NumDiv.in_no _ _ _ _ HQ2.out).mono ?_); rintro e w' ⟨rfl, rfl⟩) | (go_at_call 90; (with_reducible refine (NumDiv.in_no _ _ _ _ HQ.out).mono ?_); rintro e w' ⟨rfl, rfl⟩))
            go_round
            case rel => exact ⟨k + 1, by omega, by go_num, HT.out⟩
            case measure => simp [intOf]; omega
          · have HE := Lib.hid (hbad hc)
            have HQ := Lib.hid q1
            have HQ2 := Lib.hid q2
            have q5 := hbne _ _ _ q3
            have q6 := hbne _ _ _ q4
            clear hc hmore hbad q1 q2 hbne
            go_wp2_with (first | (go_at_call 90; (with_reducible refine (NumDiv.in_no _ _ _ _ HQ2.out).mono ?_); rintro e w' ⟨rfl, rfl⟩) | (go_at_call 90; (with_reducible refine (NumDiv.in_no _ _ _ _ HQ.out).mono ?_); rintro e w' ⟨rfl, rfl⟩))
            go_ret
            exact ⟨ret_b HE.out.symm, HB0.out⟩
        · have HH := Lib.hid (all_end (show k = sh.size by omega) HA.out)
          clear HA
          go_wp2
          go_loop [6] (fun i => ∃ k : Nat, k ≤ st.size ∧ i = .int .i64 k ∧ (st.data.toList.take k).all tb = true) (fun i => st.size - (intOf i).toNat)
          case atStart => exact ⟨0, Nat.zero_le _, rfl, rfl⟩
          case round =>
            obtain ⟨k, hk, rfl, ha⟩ := hrel
            have HA := Lib.hid ha
            clear ha
            by_cases hlt : k < st.size
            · have hb255 : (st[k].toNat : Int) ≤ 255 := by have := st[k].toNat_lt; omega
              rcases hc : tb st[k] with _ | _
              · have HE := Lib.hid (bad_t (m := sm.data.toList) (h := sh.data.toList) (l := l) (all_bad hlt hc))
                have HQ := Lib.hid (tb_no hc)
                clear hc
                go_wp2_with (go_at_call 90; (with_reducible refine (NumDiv.in_no _ _ _ _ HQ.out).mono ?_); rintro e w' ⟨rfl, rfl⟩)
                go_ret
                exact ⟨ret_b HE.out.symm, HB0.out⟩
              · have HT := Lib.hid (all_more hlt HA.out hc)
                obtain ⟨q1, q2⟩ := tb_yes hc
                clear hc
                go_wp2_with (go_at_call 90; (with_reducible refine (NumDiv.in_yes _ _ _ _ q1 q2).mono ?_); rintro e w' ⟨rfl, rfl⟩)
                go_round
                case rel => exact ⟨k + 1, by omega, by go_num, HT.out⟩
                case measure => simp [intOf]; omega
            · have HT := Lib.hid (all_end (show k = st.size by omega) HA.out)
              have HE0 : Hid (reqOk sm.data.toList sh.data.toList st.data.toList l = (Tx.token sm.data.toList && (decide (1 ≤ sh.size ∧ sh.size ≤ 40) && (decide (1 ≤ st.size ∧ st.size ≤ 100) && (st.data.toList.head? == some 47 && (z4 && !z5)))))) := Lib.hid ((rest_of HM.out HH.out HT.out).trans HRR.out)
              clear HA HM HH HT HRR
              go_wp2_with (fail)
              go_at_call 92
              refine (HG.out _ HB0.out).mono ?_
              rintro e w1 ⟨rfl, b1⟩
              obtain ⟨⟨c0, c1, c2, c3⟩, hb1⟩ := HK.out _ b1
              have HB1 := Lib.hid hb1
              have HS1 := Lib.hid b1
              clear b1 hb1
              go_wp2_with (fail)
              go_at_call 116
              refine (HTK.out _).mono ?_
              rintro e w2 ⟨he, rfl⟩
              cases hz1 : Tx.token sm.data.toList with
              | false =>
                rw [hz1] at he
                subst he
                have HE : Hid (reqOk sm.data.toList sh.data.toList st.data.toList l = false) := Lib.hid (by rw [HE0.out, hz1, Bool.false_and])
                clear HE0 hz1
                go_wp2
                go_ret
                exact ⟨ret_b HE.out.symm, HB1.out⟩
              | true =>
              rw [hz1] at he
              subst he
              rw [hz1, Bool.true_and] at HE0
              clear hz1
              by_cases g1 : 1 ≤ (sh.size : Int) ∧ (sh.size : Int) ≤ 40
              case neg =>
                have HE : Hid (reqOk sm.data.toList sh.data.toList st.data.toList l = false) := Lib.hid (by rw [HE0.out, decide_eq_false (by omega), Bool.false_and])
                have HQ := Lib.hid (show (sh.size : Int) < 1 ∨ 40 < (sh.size : Int) by omega)
                clear HE0 g1
                go_wp2_with (fail)
                go_at_call 90
                refine (NumDiv.in_no _ _ _ _ HQ.out).mono ?_
                rintro e w3 ⟨rfl, rfl⟩
                go_wp2
                go_ret
                exact ⟨ret_b HE.out.symm, HB1.out⟩
              rw [decide_eq_true (show 1 ≤ sh.size ∧ sh.size ≤ 40 by omega), Bool.true_and] at HE0
              obtain ⟨g1, g2⟩ := g1
              by_cases g3 : 1 ≤ (st.size : Int) ∧ (st.size : Int) ≤ 100
              case neg =>
                have HE : Hid (reqOk sm.data.toList sh.data.toList st.data.toList l = false) := Lib.hid (by rw [HE0.out, decide_eq_false (by omega), Bool.false_and])
                have HQ := Lib.hid (show (st.size : Int) < 1 ∨ 100 < (st.size : Int) by omega)
                clear HE0 g3
                go_wp2_with (fail)
                go_at_call 90
                refine (NumDiv.in_yes _ _ _ _ g1 g2).mono ?_
                rintro e w3 ⟨rfl, rfl⟩
                go_wp2_with (fail)
                go_at_call 90
                refine (NumDiv.in_no _ _ _ _ HQ.out).mono ?_
                rintro e w3 ⟨rfl, rfl⟩
                go_wp2
                go_ret
                exact ⟨ret_b HE.out.symm, HB1.out⟩
              rw [decide_eq_true (show 1 ≤ st.size ∧ st.size ≤ 100 by omega), Bool.true_and] at HE0
              obtain ⟨g3, g4⟩ := g3
              have hp : 0 < st.size := by omega
              have hhd : st.data.toList.head? = some (st[0]'hp) := by
                obtain ⟨⟨tl⟩⟩ := st
                cases tl with
                | nil => simp [ByteArray.size] at hp
                | cons a r => rfl
              rw [hhd] at HE0
              have h47 : ((some (st[0]'hp) : Option UInt8) == some 47) = (((st[0]'hp).toNat : Int) == 47) := by
                have h9 : (((st[0]'hp).toNat : Int) == 47) = ((st[0]'hp) == 47) := Tx.eq_nat (c := st[0]'hp) (n := 47) (by omega)
                rw [h9]; rfl
              rw [h47] at HE0
              clear hhd h47
              cases hs0 : (((st[0]'hp).toNat : Int) == 47) with
              | false =>
                have HE : Hid (reqOk sm.data.toList sh.data.toList st.data.toList l = false) := Lib.hid (by rw [HE0.out, hs0, Bool.false_and])
                clear HE0
                go_wp2_with (fail)
                go_at_call 90
                refine (NumDiv.in_yes _ _ _ _ g1 g2).mono ?_
                rintro e w3 ⟨rfl, rfl⟩
                go_wp2_with (fail)
                go_at_call 90
                refine (NumDiv.in_yes _ _ _ _ g3 g4).mono ?_
                rintro e w3 ⟨rfl, rfl⟩
                go_wp2
                go_ret
                exact ⟨ret_b HE.out.symm, HB1.out⟩
              | true =>
                rw [hs0, Bool.true_and] at HE0
                cases z4
                all_goals
                  go_wp2_with (fail)
                  go_at_call 90
                  refine (NumDiv.in_yes _ _ _ _ g1 g2).mono ?_
                  rintro e w3 ⟨rfl, rfl⟩
                  go_wp2_with (fail)
                  go_at_call 90
                  refine (NumDiv.in_yes _ _ _ _ g3 g4).mono ?_
                  rintro e w3 ⟨rfl, rfl⟩
                  go_wp2_with (fail)
                  go_at_call 117
                  refine (HW.out _ HB1.out).mono ?_
                  rintro e w4 ⟨rfl, b4⟩
                  have HB4 := Lib.hid (Base.then_below HB1.out b4)
                  clear b4
                  go_wp2
                  go_ret
                  exact ⟨ret_b (by rw [HE0.out]; simp), HB4.out⟩
theorem spec_isq (m h t : List UInt8) (v : Value) (B : Nat) (l : List Flds.Fld) (w : World) (hh : Flds.Holds w B v l) (hB : B ≤ w.heap.size) (hl : Flds.total l ≤ 1048576) (hm : m.length ≤ 1048576) (hhl : h.length ≤ 1048576) (ht : t.length ≤ 1048576) :
    Calls Tryz.prog 71 #[.agg #[.string ⟨m.toArray⟩, .string ⟨h.toArray⟩, .string ⟨t.toArray⟩, v]] w (BoolEnd (reqOk m h t l) w) :=
  spec_isq_s ⟨m.toArray⟩ ⟨h.toArray⟩ ⟨t.toArray⟩ v B l w hh hB hl (by rw [bsz]; exact hm) (by rw [bsz]; exact hhl) (by rw [bsz]; exact ht)
end Go.Proofs.YtndbhjgfaghelaaGreatDoor.Msg

/-
  CONTRACT of the model's IsOrigin: at any origin it answers whether its pages, how many they are and its host are as they must be; nothing that was there before is changed.
-/
namespace Go.Proofs.YtndbhjgfaghelaaGreatDoor.Orc
open Go Go.RowKit
set_option linter.unusedVariables false
set_option maxRecDepth 1000000
set_option maxRecDepth 1000000

/-- No part of a page is longer than a law's argument. -/
def Sm1 (f : Rsl.T) : Prop := f.et.length ≤ 1048576 ∧ f.ec.length ≤ 1048576 ∧ f.ek.length ≤ 1048576 ∧ f.egs.length ≤ 1048576 ∧ (∀ x ∈ f.egs, x.length ≤ 1048576) ∧ f.evs.length ≤ 1048576
theorem mem_page {l : List Rsl.T} {k : Nat} (h : k < l.length) : l.getD k Rsl.nov ∈ l := by
  rw [show l.getD k Rsl.nov = l[k] by simp [List.getD, h]]; exact List.getElem_mem _
theorem le_sum {l : List (List UInt8)} {x : List UInt8} (h : x ∈ l) : x.length ≤ (l.map (·.length)).sum := by
  induction l with
  | nil => cases h
  | cons a r ih =>
    simp only [List.map_cons, List.sum_cons]
    rcases List.mem_cons.1 h with rfl | h
    · omega
    · have := ih h; omega
theorem sm_one {f : Rsl.T} (h : Rsl.wt f ≤ 1048576) : Sm1 f := by
  unfold Rsl.wt Res.tot at h
  have hs : f.egs.length ≤ Strs.total f.egs := by unfold Strs.total; omega
  have hv := Ver.len_le_total f.evs
  refine ⟨by omega, by omega, by omega, by omega, fun x hx => ?_, by omega⟩
  have : x.length ≤ (f.egs.map (·.length)).sum := le_sum hx
  unfold Strs.total at h
  omega
theorem sm_all {l : List Rsl.T} (h : Rsl.total l ≤ 1048576) : ∀ f ∈ l, Sm1 f := fun f hf => sm_one (by have := Rsl.mem_total hf; omega)
theorem ret_b {a b : Bool} (h : a = b) : Ending.returned (.bool a) = .returned (.bool b) := by rw [h]

set_option maxHeartbeats 8000000 in
theorem spec_org (h : List UInt8) (u : Value) (B : Nat) (l : List Rsl.T) (w : World) (hu : Rsl.Holds w B u l) (hB : B ≤ w.heap.size) (hh : h.length ≤ 1048576) (hl : l.length ≤ 1048576) (hx : ∀ f ∈ l, Sm1 f) :
    Calls Tryz.prog 33 #[.agg #[.string ⟨h.toArray⟩, u]] w fun e w' => e = .returned (.bool (orgOk h l)) ∧ Below w.heap.size w w' := by
  have HHO := Lib.hid hu
  obtain ⟨au, cu, rfl, hau⟩ : ∃ a cap, u = .slice a l.length cap ∧ (0 < l.length → ∃ b off, a = some ⟨b, off, none⟩ ∧ b < B ∧ ∃ rows : List (Nst.Row 6), rows.length = l.length ∧ Rec.At 6 Nst.cs (Nst.nov 6) w b off rows ∧ ∀ j, j < l.length → Rsl.RD w B (rows.getD j (Nst.nov 6)).l (l.getD j Rsl.nov)) := by
    rcases Nst.holds_cases hu with ⟨rfl, a, cap, rfl⟩ | ⟨hp, b, off, cap, rfl, hbB, _, rows, h1, h2, h4⟩
    · exact ⟨a, cap, rfl, fun h => by simp at h⟩
    · exact ⟨_, cap, rfl, fun _ => ⟨b, off, rfl, hbB, rows, h1, h2, h4⟩⟩
  have HAU := Lib.hid hau
  have HXX := Lib.hid hx
  obtain ⟨V, hV⟩ : ∃ V, V = (w.alloc (.cells #[.string ⟨h.toArray⟩, .slice au l.length cu] 63)) := ⟨_, rfl⟩
  have HB0 : Hid (Below w.heap.size w V) := Lib.hid (by rw [hV]; exact (Below.refl _ _).alloc (Nat.le_refl _) _)
  have x0 : V.cell? ⟨w.heap.size, 0, none⟩ = some (.string ⟨h.toArray⟩) := by rw [hV, World.cell?_alloc_new]; rfl
  have x1 : V.cell? ⟨w.heap.size, 1, none⟩ = some (.slice au l.length cu) := by rw [hV, World.cell?_alloc_new]; rfl
  have HX := Lib.hid (And.intro x0 x1)
  have HVV := Lib.hid hV
  have HREST := Lib.hid (org_rest (h := h) (l := l))
  have SK : Hid (∀ u w', GrowS w V u → Below u.heap.size u w' → GrowS w V w') := Lib.hid (fun u w' h hb => grow_call h hb)
  clear hV hu hau hx x0 x1
  go_enter Tryz.func33, Tryz.ntmps33
  go_wp2
  go_loopw [3] (fun i wr => ∃ n : Nat, n ≤ l.length ∧ i = .int .i64 (n : Int) ∧ Hid ((List.range n).all (pageAt l) = true) ∧ Hid (GrowS w V wr)) (fun i _ => l.length - (intOf i).toNat)
  case atStart => exact ⟨0, Nat.zero_le _, rfl, Lib.hid rfl, Lib.hid (by rw [← HVV.out]; exact ⟨Below.refl _ _, HB0.out⟩)⟩
  case round =>
    obtain ⟨n, hn, rfl, HL, HG⟩ := hrel
    have b1 := grow_old HG.out HX.out.2
    by_cases hlt : n < l.length
    · obtain ⟨b, off, rfl, hbl, rows, h1, h2, h4⟩ := HAU.out (by omega)
      have HSD : Hid (GrowS w V wr.drew) := Lib.hid ⟨Rec.below_drew HG.out.1, Rec.below_drew HG.out.2⟩
      have HSM := Lib.hid (HXX.out _ (mem_page hlt))
      have HPG := Lib.hid (fun h1 => org_page (h := h) (l := l) hlt h1)
      have HFD := Lib.hid (fun h1 => org_find (h := h) (l := l) hlt h1)
      have HST := Lib.hid (fun h1 h2 => page_step (l := l) HL.out h1 h2)
      have hr := h4 n hlt
      have HFR := Lib.hid (fun (u : RegS.In (GrowS w V)) t => Org.spec_frs h (.slice (some ⟨b, off, none⟩) l.length cu) B l t u.w (Rsl.holds_below HHO.out (u.h.2.mono (by omega))) (Nat.le_trans hB u.h.2.size) hl)
      unfold Org.NumEnd at HFR
      generalize l.getD n Rsl.nov = f at HSM HPG HFD HST hr
      obtain ⟨et, ec, ek, ep, egs, evs⟩ := f
      obtain ⟨uu, uv, hcs, huu, huv⟩ := hr
      dsimp only at hcs huu huv HFD HST
      have c0 : w.cell? ⟨b, off + n * 6, none⟩ = some (.string ⟨et.toArray⟩) := Nst.at_cell (i := 0) h2 (by rw [h1]; exact hlt) hcs rfl
      have c1 : w.cell? ⟨b, off + n * 6 + 1, none⟩ = some (.string ⟨ec.toArray⟩) := Nst.at_cell (i := 1) h2 (by rw [h1]; exact hlt) hcs rfl
      have c2 : w.cell? ⟨b, off + n * 6 + 2, none⟩ = some (.string ⟨ek.toArray⟩) := Nst.at_cell (i := 2) h2 (by rw [h1]; exact hlt) hcs rfl
      have c3 : w.cell? ⟨b, off + n * 6 + 3, none⟩ = some (.bool ep) := Nst.at_cell (i := 3) h2 (by rw [h1]; exact hlt) hcs rfl
      have c4 : w.cell? ⟨b, off + n * 6 + 4, none⟩ = some (uu) := Nst.at_cell (i := 4) h2 (by rw [h1]; exact hlt) hcs rfl
      have c5 : w.cell? ⟨b, off + n * 6 + 5, none⟩ = some (uv) := Nst.at_cell (i := 5) h2 (by rw [h1]; exact hlt) hcs rfl
      have k : ∀ (u : RegS.In (GrowS w V)) (o : Nat) (x : Value), w.cell? ⟨b, o, none⟩ = some x → u.w.cell? ⟨b, o, none⟩ = some x := fun u o x hc => (u.h.2.cell (p := ⟨b, o, none⟩) (Rec.lt_of_cell hc)).trans hc
      have k0 := fun u => k u _ _ c0
      have k1 := fun u => k u _ _ c1
      have k2 := fun u => k u _ _ c2
      have k3 := fun u => k u _ _ c3
      have k4 := fun u => k u _ _ c4
      have k5 := fun u => k u _ _ c5
      have kb0 : ∀ u : RegS.In (GrowS w V), u.w.cell? ⟨w.heap.size, 0, none⟩ = some (.string ⟨h.toArray⟩) := fun u => grow_old u.h HX.out.1
      have kb1 : ∀ u : RegS.In (GrowS w V), u.w.cell? ⟨w.heap.size, 1, none⟩ = some (.slice (some ⟨b, off, none⟩) l.length cu) := fun u => grow_old u.h HX.out.2
      have hni : (n : Int) < (l.length : Int) := by omega
      obtain ⟨s1, s2, s3, s4, s5, s6⟩ := HSM.out
      dsimp only at s1 s2 s3 s4 s5 s6
      have HRS := Lib.hid (fun (u : RegS.In (GrowS w V)) => spec_res (Nt.isnt et) et ec ek ep uu uv egs evs B u.w (Strs.holds_below huu (u.h.2.mono (by omega))) (Ver.holds_below huv (u.h.2.mono (by omega))) (Nat.le_trans hB u.h.2.size) s1 s2 s3 s4 s5 s6 (fun W => Nt.spec_isnt et W (by omega)))
      have HPE : Hid (pageOk ⟨et, ec, ek, ep, egs, evs⟩ = resOk (Nt.isnt et) et ec ek egs evs) := Lib.hid rfl
      have HFE := Lib.hid (fun u => HFR.out u et)
      generalize resOk (Nt.isnt et) et ec ek egs evs = q at HRS HPE
      generalize Org.frs et l = z at HFE HFD HST
      clear h1 h2 h4 hcs huu huv c0 c1 c2 c3 c4 c5 k HFR s1 s2 s3 s4 s5 s6 HSM
      cases q with
      | false =>
        have HZ := Lib.hid (HPG.out HPE.out)
        clear HPG HFD HST HPE
        go_wp2
        refine RegS.region (GrowS w V) (by kernel_rfl) (by kernel_rfl) HSD.out ?_
        haveI : Nonempty (RegS.In (GrowS w V)) := ⟨⟨_, HSD.out⟩⟩
        repeat (first | go_big_quiet_step (first | (go_at_call 69; with_reducible exact RegS.call (HRS.out _) (fun e w' he => ⟨he.1, SK.out _ _ (RegS.In.h _) he.2⟩)) | (go_at_call 70; with_reducible exact RegS.call (HFE.out _) (fun e w' he => ⟨he.1, SK.out _ _ (RegS.In.h _) he.2⟩))) | quiet_step (fail))
        refine wpQuiet_nil ?_
        intro wz hw'
        obtain ⟨⟨wy, hSq⟩, hw''⟩ := hw'
        have hS : GrowS w V wz := by rw [hw'']; exact hSq
        have HS := Lib.hid hS
        clear hw'' hSq hS k0 k1 k2 k3 k4 k5 kb0 kb1 b1
        go_wp2
        go_ret
        exact ⟨ret_b HZ.out.symm, HS.out.2⟩
      | true =>
        by_cases hz : z = (n : Int)
        · have HZ := Lib.hid (HST.out HPE.out hz)
          subst hz
          clear HPG HFD HST HPE
          go_wp2
          refine RegS.region (GrowS w V) (by kernel_rfl) (by kernel_rfl) HSD.out ?_
          haveI : Nonempty (RegS.In (GrowS w V)) := ⟨⟨_, HSD.out⟩⟩
          repeat (first | go_big_quiet_step (first | (go_at_call 69; with_reducible exact RegS.call (HRS.out _) (fun e w' he => ⟨he.1, SK.out _ _ (RegS.In.h _) he.2⟩)) | (go_at_call 70; with_reducible exact RegS.call (HFE.out _) (fun e w' he => ⟨he.1, SK.out _ _ (RegS.In.h _) he.2⟩))) | quiet_step (fail))
          refine wpQuiet_nil ?_
          intro wz hw'
          obtain ⟨⟨wy, hSq⟩, hw''⟩ := hw'
          have hS : GrowS w V wz := by rw [hw'']; exact hSq
          have HS := Lib.hid hS
          clear hw'' hSq hS k0 k1 k2 k3 k4 k5 kb0 kb1 b1
          go_wp2
          go_roundw
          case rel => exact ⟨n + 1, by omega, by go_num, HZ, HS⟩
          case measure => simp [intOf]; omega
        · have HZ := Lib.hid (HFD.out hz)
          have hzb : (z == (n : Int)) = false := by simpa using hz
          clear HPG HFD HST HPE
          go_wp2
          refine RegS.region (GrowS w V) (by kernel_rfl) (by kernel_rfl) HSD.out ?_
          haveI : Nonempty (RegS.In (GrowS w V)) := ⟨⟨_, HSD.out⟩⟩
          repeat (first | go_big_quiet_step (first | (go_at_call 69; with_reducible exact RegS.call (HRS.out _) (fun e w' he => ⟨he.1, SK.out _ _ (RegS.In.h _) he.2⟩)) | (go_at_call 70; with_reducible exact RegS.call (HFE.out _) (fun e w' he => ⟨he.1, SK.out _ _ (RegS.In.h _) he.2⟩))) | quiet_step (fail))
          refine wpQuiet_nil ?_
          intro wz hw'
          obtain ⟨⟨wy, hSq⟩, hw''⟩ := hw'
          have hS : GrowS w V wz := by rw [hw'']; exact hSq
          have HS := Lib.hid hS
          clear hw'' hSq hS k0 k1 k2 k3 k4 k5 kb0 kb1 b1
          go_wp2
          go_ret
          exact ⟨ret_b HZ.out.symm, HS.out.2⟩
    · have hni : ¬ (n : Int) < (l.length : Int) := by omega
      obtain rfl : n = l.length := by omega
      have HR := Lib.hid (HREST.out HL.out)
      have b0 := grow_old HG.out HX.out.1
      by_cases h12 : l.length ≤ 12
      · have h12i : (l.length : Int) ≤ 12 := by omega
        have HQ := Lib.hid (Msg.spec_isq [71, 69, 84] h [47] (.slice none 0 0) wr.heap.size [] wr (Or.inl ⟨rfl, _, _, rfl⟩) (Nat.le_refl _) (by decide) (by decide) hh (by decide))
        have HZ : Hid (orgOk h l = Msg.reqOk [71, 69, 84] h [47] []) := Lib.hid (by rw [HR.out, decide_eq_true h12]; rfl)
        unfold Msg.BoolEnd at HQ
        generalize Msg.reqOk [71, 69, 84] h [47] [] = q at HQ HZ
        clear HL HR
        go_wp2_with (fail)
        go_at_call 71
        refine HQ.out.mono ?_
        rintro e w1 ⟨rfl, q1⟩
        have HS := Lib.hid (grow_call HG.out q1)
        clear q1 b0 b1
        go_wp2
        go_ret
        exact ⟨ret_b HZ.out.symm, HS.out.2⟩
      · have h12i : ¬ (l.length : Int) ≤ 12 := by omega
        have HZ : Hid (orgOk h l = false) := Lib.hid (by rw [HR.out, decide_eq_false h12]; rfl)
        clear HL HR
        go_wp2
        go_ret
        exact ⟨ret_b HZ.out.symm, HG.out.2⟩
end Go.Proofs.YtndbhjgfaghelaaGreatDoor.Orc

/-
  CONTRACTS of slices.ContainsFunc at a list of texts and a closure without captures; nothing that was there before is changed.
-/
namespace Go.Proofs.YtndbhjgfaghelaaGreatDoor.Cts
open Go Go.RowKit
set_option linter.unusedVariables false
set_option maxRecDepth 1000000
set_option maxRecDepth 1000000

def Enters (K : FuncId) : Prop := ∀ (args : Array Value) (w : World), Sem.run Tryz.prog (callFunc K args) w = .ok (.enter K args) w
/-- The closure answers p at each text of the list. -/
def Keeps (K : FuncId) (p : List UInt8 → Bool) (l : List (List UInt8)) (w : World) : Prop := ∀ x ∈ l, ∀ W : World, Below w.heap.size w W → Calls Tryz.prog K #[.string ⟨x.toArray⟩] W fun e w' => e = .returned (.bool (p x)) ∧ Below W.heap.size W w'
def IdxEnd (q : Bool) (w : World) (e : Ending) (w' : World) : Prop := ∃ z : Int, e = .returned (.int .i64 z) ∧ ((0 ≤ z ∧ q = true) ∨ (z < 0 ∧ q = false)) ∧ Below w.heap.size w w'
theorem any_more {p : List UInt8 → Bool} {l : List (List UInt8)} {k : Nat} (h : k < l.length) : (l.take (k + 1)).any p = ((l.take k).any p || p (l.getD k [])) := by
  rw [List.take_succ_eq_append_getElem h, List.any_append, show l.getD k [] = l[k] by simp [List.getD, h]]; simp
theorem any_take {p : List UInt8 → Bool} {l : List (List UInt8)} {k : Nat} (h : (l.take k).any p = true) : l.any p = true := by
  obtain ⟨x, hx, hp⟩ := List.any_eq_true.1 h
  exact List.any_eq_true.2 ⟨x, List.mem_of_mem_take hx, hp⟩
theorem mem_at {l : List (List UInt8)} {k : Nat} (h : k < l.length) : l.getD k [] ∈ l := by
  rw [show l.getD k [] = l[k] by simp [List.getD, h]]; exact List.getElem_mem _

theorem idx_nil (K : FuncId) (p : List UInt8 → Bool) (a : Option Addr) (cap : Nat) (w : World) :
    Calls Tryz.prog 233 #[.slice a 0 cap, .func (.func K) #[] #[]] w (IdxEnd (([] : List (List UInt8)).any p) w) := by
  go_enter Tryz.func233, Tryz.ntmps233
  go_wp2
  go_loop [8] (fun i => i = .int .i64 0) (fun i => 0)
  case atStart => rfl
  case round =>
    obtain rfl := hrel
    go_wp2
    go_ret
    exact ⟨_, rfl, Or.inr ⟨by decide, rfl⟩, Below.refl _ _⟩

set_option maxHeartbeats 1000000 in
theorem idx_some (K : FuncId) (p : List UInt8 → Bool) (b off cap : Nat) (l : List (List UInt8)) (w : World) (hE : Enters K) (hK : Keeps K p l w) (hc : Strs.At w b off l) (h0 : 0 < l.length) (hl : l.length ≤ 4194305) :
    Calls Tryz.prog 233 #[.slice (some ⟨b, off, none⟩) l.length cap, .func (.func K) #[] #[]] w (IdxEnd (l.any p) w) := by
  have hbl := Strs.at_lt hc h0
  have HC := Lib.hid hc
  have HK := Lib.hid hK
  have HE := Lib.hid hE
  clear hc hK hE
  go_enter Tryz.func233, Tryz.ntmps233
  go_wp2
  go_loopw [8] (fun i wr => ∃ k : Nat, k ≤ l.length ∧ i = .int .i64 (k : Int) ∧ Hid ((l.take k).any p = false) ∧ Below w.heap.size w wr) (fun i _ => l.length - (intOf i).toNat)
  case atStart => exact ⟨0, Nat.zero_le _, rfl, Lib.hid rfl, Below.refl _ _⟩
  case round =>
    obtain ⟨k, hk, rfl, hn, hb⟩ := hrel
    by_cases hlt : k < l.length
    · have c1 := Strs.at_below HC.out hb hbl k hlt
      have HM := Lib.hid (any_more (p := p) hlt)
      have HKy := Lib.hid (HK.out _ (mem_at hlt))
      generalize l.getD k [] = x at c1 HM HKy
      unfold Strs.sv at c1
      have HB := Lib.hid hb
      have HKx := Lib.hid (HKy.out wr hb)
      clear hb
      by_cases hp : p x = true
      · have HT : Hid (l.any p = true) := Lib.hid (any_take (k := k + 1) (by rw [HM.out, hp]; simp))
        rw [hp] at HKx
        clear hp HM hn HKy
        go_wp2_with (fail)
        rw [HE.out, Oper.upon_enter]
        refine HKx.out.mono ?_
        rintro e w1 ⟨rfl, hb1⟩
        have HB1 := Lib.hid (Base.then_below HB.out hb1)
        clear hb1
        go_wp2
        go_ret
        exact ⟨_, rfl, Or.inl ⟨by omega, HT.out⟩, HB1.out⟩
      · have hp' : p x = false := by simpa using hp
        have HT : Hid ((l.take (k + 1)).any p = false) := Lib.hid (by rw [HM.out, hn.out, hp']; rfl)
        rw [hp'] at HKx
        clear hp hp' HM hn HKy
        go_wp2_with (fail)
        rw [HE.out, Oper.upon_enter]
        refine HKx.out.mono ?_
        rintro e w1 ⟨rfl, hb1⟩
        have HB1 := Lib.hid (Base.then_below HB.out hb1)
        clear hb1
        go_wp2
        go_roundw
        case rel => exact ⟨k + 1, by omega, by go_num, HT, HB1.out⟩
        case measure => simp [intOf]; omega
    · have HT : Hid (l.any p = false) := Lib.hid (by have h := hn.out; rwa [List.take_of_length_le (by omega)] at h)
      go_wp2
      go_ret
      exact ⟨_, rfl, Or.inr ⟨by decide, HT.out⟩, hb⟩

theorem idx_any (K : FuncId) (p : List UInt8 → Bool) (v : Value) (B : Nat) (l : List (List UInt8)) (w : World) (hE : Enters K) (hK : Keeps K p l w) (h : Strs.Holds w B v l) (hl : l.length ≤ 4194305) :
    Calls Tryz.prog 233 #[v, .func (.func K) #[] #[]] w (IdxEnd (l.any p) w) := by
  rcases h with ⟨rfl, a, cap, rfl⟩ | ⟨h0, b, off, cap, rfl, _, _, hc⟩
  · exact idx_nil K p a cap w
  · exact idx_some K p b off cap l w hE hK hc h0 hl

theorem cont_any (K : FuncId) (p : List UInt8 → Bool) (v : Value) (B : Nat) (l : List (List UInt8)) (w : World) (hE : Enters K) (hK : Keeps K p l w) (h : Strs.Holds w B v l) (hl : l.length ≤ 4194305) :
    Calls Tryz.prog 174 #[v, .func (.func K) #[] #[]] w fun e w' => e = .returned (.bool (l.any p)) ∧ Below w.heap.size w w' := by
  have HI := Lib.hid (idx_any K p v B l w hE hK h hl)
  clear h hK hE
  go_enter Tryz.func174, Tryz.ntmps174
  go_wp2_with (fail)
  go_at_call 233
  refine HI.out.mono ?_
  rintro e w1 ⟨z, rfl, hz, hb⟩
  rcases hz with ⟨hz, hp⟩ | ⟨hz, hp⟩
  · have HP := Lib.hid hp
    have HB := Lib.hid hb
    clear hb hp
    go_wp2
    go_ret
    exact ⟨congrArg (fun q => Ending.returned (.bool q)) (show true = l.any p from HP.out.symm), HB.out⟩
  · have HP := Lib.hid hp
    have hzn : ¬ 0 ≤ z := by omega
    have HB := Lib.hid hb
    clear hb hp
    go_wp2
    go_ret
    exact ⟨congrArg (fun q => Ending.returned (.bool q)) (show decide (0 ≤ z) = l.any p by rw [HP.out]; simp; omega), HB.out⟩
end Go.Proofs.YtndbhjgfaghelaaGreatDoor.Cts

/-
  PLAIN FACTS on a map from texts to bools that the call has made, taken as a set: what it holds behind a store of true, behind a delete, and what a look-up answers; laws at the operations for the walk.
-/
namespace Go.Proofs.YtndbhjgfaghelaaGreatDoor.Mpb
open Go Go.RowKit Go.Maps
set_option linter.unusedVariables false
set_option maxRecDepth 1000000

/-- Block b is a set of texts: x is in it just where f says so; at most n were put in. -/
def Set (w : World) (P : Program) (K E : TypeId) (b n : Nat) (f : List UInt8 → Bool) : Prop := ∃ D : DataW Unit, w.ownsMap P K (plainElem P E) b n D ∧ ∀ s : List UInt8, D.atKey (.string s) (.lit (.bool false)) = .lit (.bool (f s))
section
variable {P : Program} {K E : TypeId} {b n : Nat} {f : List UInt8 → Bool} {w w' : World}
theorem made (w : World) : Set (w.alloc (.map #[] 0)) P K E w.heap.size 0 (fun _ => false) :=
  ⟨_, World.ownsMap_made w P K _, fun s => WideAt.atKey_none _ (fun p hp => by cases hp)⟩
theorem kept {row : Option Nat} (h : Set w P K E b n f) (hg : w.grownBy w' row) (hne : some b ≠ row) : Set w' P K E b n f := by
  obtain ⟨D, h1, h2⟩ := h
  exact ⟨D, h1.kept hg hne, h2⟩
theorem below (h : Set w P K E b n f) (hb : Below w.heap.size w w') : Set w' P K E b n f := kept (row := none) h (Rec.grown_of_below hb) (by simp)
theorem lt (h : Set w P K E b n f) : b < w.heap.size := by obtain ⟨D, h1, _⟩ := h; exact h1.lt
theorem same {g : List UInt8 → Bool} (h : Set w P K E b n f) (hf : ∀ x, f x = g x) : Set w P K E b n g := by
  obtain ⟨D, h1, h2⟩ := h
  exact ⟨D, h1, fun s => by rw [h2, hf]⟩
theorem bool_inv (he : P.underlying E = some .bool) {v : Value} {z : DataW Unit × List MemPlace} (h : plainElem P E v = some z) : ∃ c, v = .bool c ∧ z = (.lit (.bool c), []) := by
  unfold plainElem at h
  rw [he] at h
  cases v <;> simp at h
  obtain rfl := h
  exact ⟨_, rfl, rfl⟩

/-- m[s], at the operation. -/
theorem look (w : World) {ops : Array Oper} {rest : List Oper} {o : Oper} {a : Act} {Q : Exit → Act → World → Prop}
    (hg : o.guard = none) (m x : Operand) (t : TypeId) (hop : o.op = Op.lookup t m x false) (K E : TypeId)
    (ht : P.underlying t = some (.map K E)) (hk : P.underlying K = some .string) (he : P.underlying E = some .bool) (hz : (zeroValue E).run P w = .ok (.bool false) w) (b n : Nat) (f : List UInt8 → Bool)
    (hm : a.eval m = .map (some b)) (hs : Set w P K E b n f) (s : ByteArray) (hx : a.eval x = .string s) (hl : s.size ≤ maxLen) (c0 : Bool) (hc0 : f s.data.toList = c0)
    (hK : wpList P ops Q rest (a.put o.dst (.bool c0)) w) :
    wpList P ops Q (o :: rest) a w := by
  obtain ⟨D, hown, hD⟩ := hs
  refine wpList_plain hg fun K' hK' => ?_
  obtain ⟨v, ps, hrun, hv⟩ := hown.lookup (string_keyed hk) ht hz (plainElem_bool he false) (WideMaps.keyOf_string_mk hk hl)
  obtain ⟨c, rfl, hc⟩ := bool_inv he hv
  rw [hD, hc0] at hc
  simp only [Prod.mk.injEq, DataW.lit.injEq, Lit.bool.injEq] at hc
  rw [hc.1] at hK
  unfold Oper.wp
  simp [execOp, hop, hm, hx, hrun, Result.andThen]
  exact hK' _ _ hK

/-- m[s] = true, at the operation. -/
theorem put (w : World) {ops : Array Oper} {rest : List Oper} {o : Oper} {a : Act} {Q : Exit → Act → World → Prop}
    (hg : o.guard = none) (m x v : Operand) (t : TypeId) (hop : o.op = Op.mapUpdate t m x v) (K E : TypeId)
    (ht : P.underlying t = some (.map K E)) (hk : P.underlying K = some .string) (he : P.underlying E = some .bool) (b n : Nat) (f : List UInt8 → Bool)
    (hm : a.eval m = .map (some b)) (hs : Set w P K E b n f) (hn : n < maxLen) (s : ByteArray) (hx : a.eval x = .string s) (hv : a.eval v = .bool true) (hl : s.size ≤ maxLen)
    (hK : ∀ w', Set w' P K E b (n + 1) (fun y => y == s.data.toList || f y) → w.grownBy w' (some b) → wpList P ops Q rest (a.put o.dst undef) w') :
    wpList P ops Q (o :: rest) a w := by
  obtain ⟨D, hown, hD⟩ := hs
  refine wpList_mapUpdate_own w hg m x v t hop K E (string_keyed hk) ht (plainElem P E) b n D hm hown hn _ _ (.string s.data.toList) hx hv (WideMaps.keyOf_string_mk hk hl) (.lit (.bool true)) [] (plainElem_bool he true) ?_
  intro w' h1 h2
  refine hK w' ⟨_, h1, fun y => ?_⟩ h2
  by_cases e : y = s.data.toList
  · subst e
    rw [atKey_put_same hown.isMap (by first | trivial | (simp [WideAt.IsKeyLit]) | decide)]
    simp
  · rw [atKey_put_other (fun h => e (by injection h)), hD]
    simp [e]

/-- delete(m, s), at the operation. -/
theorem drop (w : World) {ops : Array Oper} {rest : List Oper} {o : Oper} {a : Act} {Q : Exit → Act → World → Prop}
    (hg : o.guard = none) (m x : Operand) (t K : TypeId) (hop : o.op = Op.call { callee := Callee.builtin Builtin.delete, args := #[m, x], argTypes := #[t, K] }) (E : TypeId)
    (ht : P.underlying t = some (.map K E)) (hk : P.underlying K = some .string) (b n : Nat) (f : List UInt8 → Bool)
    (hm : a.eval m = .map (some b)) (hs : Set w P K E b n f) (s : ByteArray) (hx : a.eval x = .string s) (hl : s.size ≤ maxLen)
    (hK : ∀ w', Set w' P K E b n (fun y => !(y == s.data.toList) && f y) → w.grownBy w' (some b) → wpList P ops Q rest (a.put o.dst (.tuple #[])) w') :
    wpList P ops Q (o :: rest) a w := by
  obtain ⟨D, hown, hD⟩ := hs
  refine wpList_delete_own w hg m x t K hop E (string_keyed hk) ht (plainElem P E) b n D hm hown _ (.string s.data.toList) hx (WideMaps.keyOf_string_mk hk hl) ?_
  intro w' h1 h2
  refine hK w' ⟨_, h1, fun y => ?_⟩ h2.grown
  by_cases e : y = s.data.toList
  · subst e
    rw [atKey_del_same]
    simp
  · rw [atKey_del_other (fun h => e (by injection h)), hD]
    simp [e]
end
end Go.Proofs.YtndbhjgfaghelaaGreatDoor.Mpb
