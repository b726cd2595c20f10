/-
  CONTRACTS AND PLAIN FACTS, several texts in one; each says in its own words what it proves.
-/
import Derived.Test.YtojmkdggkaocdaaGreatDoorPvAN
import Derived.Test.YtojmkdggkaocdaaGreatDoorPvAG
import Derived.Test.YtojmkdggkaocdaaGreatDoorPvAK

/-
  CONTRACT of the model's IsRequest; nothing that was there before is changed.
-/
namespace Go.Proofs.YtojmkdggkaocdaaGreatDoor.Msg
open Go Go.RowKit
set_option linter.unusedVariables false
set_option maxRecDepth 1000000

/-- What is left to ask when all bytes are of their kinds. -/
def reqRest (sm sh st : ByteArray) (l : List Flds.Fld) : Bool := Tx.token sm.data.toList && (decide (1 ≤ sh.size ∧ sh.size ≤ 40) && (decide (1 ≤ st.size ∧ st.size ≤ 100) && (st.data.toList.head? == some 47 && (ownOk l && !Flds.has l hostName))))
theorem rest_of {sm sh st : ByteArray} {l : List Flds.Fld} (h1 : sm.data.toList.all nolow = true) (h2 : sh.data.toList.all hb = true) (h3 : st.data.toList.all tb = true) : reqOk sm.data.toList sh.data.toList st.data.toList l = reqRest sm sh st l := by
  unfold reqOk methOk hostOk targOk reqRest
  rw [h1, h2, h3, Tx.list_len, Tx.list_len]
  simp only [Bool.true_and, Bool.and_assoc]
theorem bad_m {m h t : List UInt8} {l : List Flds.Fld} (e : m.all nolow = false) : reqOk m h t l = false := by unfold reqOk methOk; rw [e]; simp
theorem bad_h {m h t : List UInt8} {l : List Flds.Fld} (e : h.all hb = false) : reqOk m h t l = false := by unfold reqOk hostOk; rw [e]; simp
theorem bad_t {m h t : List UInt8} {l : List Flds.Fld} (e : t.all tb = false) : reqOk m h t l = false := by unfold reqOk targOk; rw [e]; simp

set_option maxRecDepth 1000000 in
set_option maxHeartbeats 4000000 in
theorem spec_isq_s (sm sh st : ByteArray) (v : Value) (B : Nat) (l : List Flds.Fld) (w : World) (hh : Flds.Holds w B v l) (hB : B ≤ w.heap.size) (hl : Flds.total l ≤ 1048576) (hm : sm.size ≤ 1048576) (hhl : sh.size ≤ 1048576) (ht : st.size ≤ 1048576) :
    Calls Tryz.prog 116 #[.agg #[.string sm, .string sh, .string st, v]] w (BoolEnd (reqOk sm.data.toList sh.data.toList st.data.toList l) w) := by
  have HB0 : Hid (Below w.heap.size w (w.alloc (.cells #[.string sm, .string sh, .string st, v] 62))) := Lib.hid ((Below.refl _ _).alloc (Nat.le_refl _) _)
  have HG := Lib.hid (fun W (hb : Below w.heap.size w W) => Flds.spec_get v B l hostName W (Flds.holds_below hh (hb.mono hB)) (Nat.le_trans hl (by decide)))
  have HW := Lib.hid (fun W (hb : Below w.heap.size w W) => spec_own v B l W (Flds.holds_below hh (hb.mono hB)) (Nat.le_trans hB hb.size) hl)
  have HTK := Lib.hid (fun W => Tx.spec_token sm W (by omega))
  have HK := Lib.hid (fun w1 (hb : Below (w.alloc (.cells #[.string sm, .string sh, .string st, v] 62)).heap.size (w.alloc (.cells #[.string sm, .string sh, .string st, v] 62)) w1) => And.intro (And.intro ((Kept.one hb).1 0 _ rfl) (And.intro ((Kept.one hb).1 1 _ rfl) (And.intro ((Kept.one hb).1 2 _ rfl) ((Kept.one hb).1 3 _ rfl)))) (Kept.below_in hb))
  unfold Flds.GetEnd hostName at HG
  have hv : decide (0 < (Flds.vals hostName l).length) = Flds.has l hostName := Flds.has_vals l hostName
  unfold hostName at hv
  rw [hv] at HG
  unfold BoolEnd at HW ⊢
  have HR : Hid (∀ a b c, reqRest sm sh st l = (Tx.token sm.data.toList && (decide (1 ≤ sh.size ∧ sh.size ≤ 40) && (decide (1 ≤ st.size ∧ st.size ≤ 100) && (st.data.toList.head? == some 47 && (ownOk l && !Flds.has l [104, 111, 115, 116]))))) ∨ a ∨ b ∨ c) := Lib.hid (fun _ _ _ => Or.inl rfl)
  have HRR : Hid (reqRest sm sh st l = (Tx.token sm.data.toList && (decide (1 ≤ sh.size ∧ sh.size ≤ 40) && (decide (1 ≤ st.size ∧ st.size ≤ 100) && (st.data.toList.head? == some 47 && (ownOk l && !Flds.has l [104, 111, 115, 116])))))) := Lib.hid rfl
  clear hh hl hv HR
  generalize Flds.has l [104, 111, 115, 116] = z5 at HG HRR
  generalize Tx.join (Flds.vals [104, 111, 115, 116] l) = jt at HG
  generalize ownOk l = z4 at HW HRR
  go_enter Tryz.func116, Tryz.ntmps116
  go_wp2
  go_loop [3] (fun i => ∃ k : Nat, k ≤ sm.size ∧ i = .int .i64 k ∧ (sm.data.toList.take k).all nolow = true) (fun i => sm.size - (intOf i).toNat)
  case atStart => exact ⟨0, Nat.zero_le _, rfl, rfl⟩
  case round =>
    obtain ⟨k, hk, rfl, ha⟩ := hrel
    have HA := Lib.hid ha
    clear ha
    by_cases hlt : k < sm.size
    · have hb255 : (sm[k].toNat : Int) ≤ 255 := by have := sm[k].toNat_lt; omega
      rcases hc : nolow sm[k] with _ | _
      · have HE := Lib.hid (bad_m (h := sh.data.toList) (t := st.data.toList) (l := l) (all_bad hlt hc))
        obtain ⟨q1, q2⟩ := nolow_no hc
        clear hc
        go_wp2_with (go_at_call 36; (with_reducible refine (NumDiv.in_yes _ _ _ _ q1 q2).mono ?_); rintro e w' ⟨rfl, rfl⟩)
        go_ret
        exact ⟨ret_b HE.out.symm, HB0.out⟩
      · have HT := Lib.hid (all_more hlt HA.out hc)
        have HQ := Lib.hid (nolow_yes hc)
        clear hc
        go_wp2_with (go_at_call 36; (with_reducible refine (NumDiv.in_no _ _ _ _ HQ.out).mono ?_); rintro e w' ⟨rfl, rfl⟩)
        go_round
        case rel => exact ⟨k + 1, by omega, by go_num, HT.out⟩
        case measure => simp [intOf]; omega
    · have HM := Lib.hid (all_end (show k = sm.size by omega) HA.out)
      clear HA
      go_wp2
      go_loop [4, 5] (fun i j => ∃ k : Nat, k ≤ sh.size ∧ i = .int .i64 k ∧ (sh.data.toList.take k).all hb = true) (fun i _ => sh.size - (intOf i).toNat)
      case atStart => exact ⟨0, Nat.zero_le _, rfl, rfl⟩
      case round =>
        obtain ⟨k, hk, rfl, ha⟩ := hrel
        have HA := Lib.hid ha
        clear ha
        by_cases hlt : k < sh.size
        · have hb255 : (sh[k].toNat : Int) ≤ 255 := by have := sh[k].toNat_lt; omega
          have hmore : hb sh[k] = true → (sh.data.toList.take (k + 1)).all hb = true := fun hc => all_more hlt HA.out hc
          have hbad : hb sh[k] = false → reqOk sm.data.toList sh.data.toList st.data.toList l = false := fun hc => bad_h (all_bad hlt hc)
          have hbne : ∀ (x y : Int) (b : Bool), (x == y) = b → (x != y) = !b := fun x y b h => by rw [bne, h]
          rcases hb_cases sh[k] with ⟨hc, q⟩ | ⟨hc, q1, q2⟩ | ⟨hc, q1, q2, q3⟩ | ⟨hc, q1, q2, q3, q4⟩ | ⟨hc, q1, q2, q3, q4⟩
          · have HT := Lib.hid (hmore hc)
            obtain ⟨q1, q2⟩ := q
            clear hc hmore hbad hbne
            go_wp2_with (go_at_call 36; (with_reducible refine (NumDiv.in_yes _ _ _ _ q1 q2).mono ?_); rintro e w' ⟨rfl, rfl⟩)
            go_round
            case rel => exact ⟨k + 1, by omega, by go_num, HT.out⟩
            case measure => simp [intOf]; omega
          · have HT := Lib.hid (hmore hc)
            have HQ := Lib.hid q1
            obtain ⟨q3, q4⟩ := q2
            clear hc hmore hbad q1 hbne
            go_wp2_with (first | (go_at_call 36; (with_reducible refine (NumDiv.in_yes _ _ _ _ q3 q4).mono ?_); rintro e w' ⟨rfl, rfl⟩) | (go_at_call 36; (with_reducible refine (NumDiv.in_no _ _ _ _ HQ.out).mono ?_); rintro e w' ⟨rfl, rfl⟩))
            go_round
            case rel => exact ⟨k + 1, by omega, by go_num, HT.out⟩
            case measure => simp [intOf]; omega
          · have HT := Lib.hid (hmore hc)
            have HQ := Lib.hid q1
            have HQ2 := Lib.hid q2
            have q5 := hbne _ _ _ q3
            clear hc hmore hbad q1 q2 hbne
            go_wp2_with (first | (go_at_call 36; (with_reducible refine (NumDiv.in_no _ _ _ _ HQ2.out).mono ?_); rintro e w' ⟨rfl, rfl⟩) | (go_at_call 36; (with_reducible refine (NumDiv.in_no _ _ _ _ HQ.out).mono ?_); rintro e w' ⟨rfl, rfl⟩))
            go_round
            case rel => exact ⟨k + 1, by omega, by go_num, HT.out⟩
            case measure => simp [intOf]; omega
          · have HT := Lib.hid (hmore hc)
            have HQ := Lib.hid q1
            have HQ2 := Lib.hid q2
            have q5 := hbne _ _ _ q3
            have q6 := hbne _ _ _ q4
            clear hc hmore hbad q1 q2 hbne
            go_wp2_with (first | (go_at_call 36; (with_reducible refine (NumDiv.in_no _ _ _ _ HQ2.out).mono ?_); rintro e w' ⟨rfl, rfl⟩) | (go_at_call 36; (with_reducible refine (NumDiv.in_no _ _ _ _ HQ.out).mono ?_); rintro e w' ⟨rfl, rfl⟩))
            go_round
            case rel => exact ⟨k + 1, by omega, by go_num, HT.out⟩
            case measure => simp [intOf]; omega
          · have HE := Lib.hid (hbad hc)
            have HQ := Lib.hid q1
            have HQ2 := Lib.hid q2
            have q5 := hbne _ _ _ q3
            have q6 := hbne _ _ _ q4
            clear hc hmore hbad q1 q2 hbne
            go_wp2_with (first | (go_at_call 36; (with_reducible refine (NumDiv.in_no _ _ _ _ HQ2.out).mono ?_); rintro e w' ⟨rfl, rfl⟩) | (go_at_call 36; (with_reducible refine (NumDiv.in_no _ _ _ _ HQ.out).mono ?_); rintro e w' ⟨rfl, rfl⟩))
            go_ret
            exact ⟨ret_b HE.out.symm, HB0.out⟩
        · have HH := Lib.hid (all_end (show k = sh.size by omega) HA.out)
          clear HA
          go_wp2
          go_loop [6] (fun i => ∃ k : Nat, k ≤ st.size ∧ i = .int .i64 k ∧ (st.data.toList.take k).all tb = true) (fun i => st.size - (intOf i).toNat)
          case atStart => exact ⟨0, Nat.zero_le _, rfl, rfl⟩
          case round =>
            obtain ⟨k, hk, rfl, ha⟩ := hrel
            have HA := Lib.hid ha
            clear ha
            by_cases hlt : k < st.size
            · have hb255 : (st[k].toNat : Int) ≤ 255 := by have := st[k].toNat_lt; omega
              rcases hc : tb st[k] with _ | _
              · have HE := Lib.hid (bad_t (m := sm.data.toList) (h := sh.data.toList) (l := l) (all_bad hlt hc))
                have HQ := Lib.hid (tb_no hc)
                clear hc
                go_wp2_with (go_at_call 36; (with_reducible refine (NumDiv.in_no _ _ _ _ HQ.out).mono ?_); rintro e w' ⟨rfl, rfl⟩)
                go_ret
                exact ⟨ret_b HE.out.symm, HB0.out⟩
              · have HT := Lib.hid (all_more hlt HA.out hc)
                obtain ⟨q1, q2⟩ := tb_yes hc
                clear hc
                go_wp2_with (go_at_call 36; (with_reducible refine (NumDiv.in_yes _ _ _ _ q1 q2).mono ?_); rintro e w' ⟨rfl, rfl⟩)
                go_round
                case rel => exact ⟨k + 1, by omega, by go_num, HT.out⟩
                case measure => simp [intOf]; omega
            · have HT := Lib.hid (all_end (show k = st.size by omega) HA.out)
              have HE0 : Hid (reqOk sm.data.toList sh.data.toList st.data.toList l = (Tx.token sm.data.toList && (decide (1 ≤ sh.size ∧ sh.size ≤ 40) && (decide (1 ≤ st.size ∧ st.size ≤ 100) && (st.data.toList.head? == some 47 && (z4 && !z5)))))) := Lib.hid ((rest_of HM.out HH.out HT.out).trans HRR.out)
              clear HA HM HH HT HRR
              go_wp2_with (fail)
              go_at_call 100
              refine (HG.out _ HB0.out).mono ?_
              rintro e w1 ⟨rfl, b1⟩
              obtain ⟨⟨c0, c1, c2, c3⟩, hb1⟩ := HK.out _ b1
              have HB1 := Lib.hid hb1
              have HS1 := Lib.hid b1
              clear b1 hb1
              go_wp2_with (fail)
              go_at_call 103
              refine (HTK.out _).mono ?_
              rintro e w2 ⟨he, rfl⟩
              cases hz1 : Tx.token sm.data.toList with
              | false =>
                rw [hz1] at he
                subst he
                have HE : Hid (reqOk sm.data.toList sh.data.toList st.data.toList l = false) := Lib.hid (by rw [HE0.out, hz1, Bool.false_and])
                clear HE0 hz1
                go_wp2
                go_ret
                exact ⟨ret_b HE.out.symm, HB1.out⟩
              | true =>
              rw [hz1] at he
              subst he
              rw [hz1, Bool.true_and] at HE0
              clear hz1
              by_cases g1 : 1 ≤ (sh.size : Int) ∧ (sh.size : Int) ≤ 40
              case neg =>
                have HE : Hid (reqOk sm.data.toList sh.data.toList st.data.toList l = false) := Lib.hid (by rw [HE0.out, decide_eq_false (by omega), Bool.false_and])
                have HQ := Lib.hid (show (sh.size : Int) < 1 ∨ 40 < (sh.size : Int) by omega)
                clear HE0 g1
                go_wp2_with (fail)
                go_at_call 36
                refine (NumDiv.in_no _ _ _ _ HQ.out).mono ?_
                rintro e w3 ⟨rfl, rfl⟩
                go_wp2
                go_ret
                exact ⟨ret_b HE.out.symm, HB1.out⟩
              rw [decide_eq_true (show 1 ≤ sh.size ∧ sh.size ≤ 40 by omega), Bool.true_and] at HE0
              obtain ⟨g1, g2⟩ := g1
              by_cases g3 : 1 ≤ (st.size : Int) ∧ (st.size : Int) ≤ 100
              case neg =>
                have HE : Hid (reqOk sm.data.toList sh.data.toList st.data.toList l = false) := Lib.hid (by rw [HE0.out, decide_eq_false (by omega), Bool.false_and])
                have HQ := Lib.hid (show (st.size : Int) < 1 ∨ 100 < (st.size : Int) by omega)
                clear HE0 g3
                go_wp2_with (fail)
                go_at_call 36
                refine (NumDiv.in_yes _ _ _ _ g1 g2).mono ?_
                rintro e w3 ⟨rfl, rfl⟩
                go_wp2_with (fail)
                go_at_call 36
                refine (NumDiv.in_no _ _ _ _ HQ.out).mono ?_
                rintro e w3 ⟨rfl, rfl⟩
                go_wp2
                go_ret
                exact ⟨ret_b HE.out.symm, HB1.out⟩
              rw [decide_eq_true (show 1 ≤ st.size ∧ st.size ≤ 100 by omega), Bool.true_and] at HE0
              obtain ⟨g3, g4⟩ := g3
              have hp : 0 < st.size := by omega
              have hhd : st.data.toList.head? = some (st[0]'hp) := by
                obtain ⟨⟨tl⟩⟩ := st
                cases tl with
                | nil => simp [ByteArray.size] at hp
                | cons a r => rfl
              rw [hhd] at HE0
              have h47 : ((some (st[0]'hp) : Option UInt8) == some 47) = (((st[0]'hp).toNat : Int) == 47) := by
                have h9 : (((st[0]'hp).toNat : Int) == 47) = ((st[0]'hp) == 47) := Tx.eq_nat (c := st[0]'hp) (n := 47) (by omega)
                rw [h9]; rfl
              rw [h47] at HE0
              clear hhd h47
              cases hs0 : (((st[0]'hp).toNat : Int) == 47) with
              | false =>
                have HE : Hid (reqOk sm.data.toList sh.data.toList st.data.toList l = false) := Lib.hid (by rw [HE0.out, hs0, Bool.false_and])
                clear HE0
                go_wp2_with (fail)
                go_at_call 36
                refine (NumDiv.in_yes _ _ _ _ g1 g2).mono ?_
                rintro e w3 ⟨rfl, rfl⟩
                go_wp2_with (fail)
                go_at_call 36
                refine (NumDiv.in_yes _ _ _ _ g3 g4).mono ?_
                rintro e w3 ⟨rfl, rfl⟩
                go_wp2
                go_ret
                exact ⟨ret_b HE.out.symm, HB1.out⟩
              | true =>
                rw [hs0, Bool.true_and] at HE0
                cases z4
                all_goals
                  go_wp2_with (fail)
                  go_at_call 36
                  refine (NumDiv.in_yes _ _ _ _ g1 g2).mono ?_
                  rintro e w3 ⟨rfl, rfl⟩
                  go_wp2_with (fail)
                  go_at_call 36
                  refine (NumDiv.in_yes _ _ _ _ g3 g4).mono ?_
                  rintro e w3 ⟨rfl, rfl⟩
                  go_wp2_with (fail)
                  go_at_call 145
                  refine (HW.out _ HB1.out).mono ?_
                  rintro e w4 ⟨rfl, b4⟩
                  have HB4 := Lib.hid (Base.then_below HB1.out b4)
                  clear b4
                  go_wp2
                  go_ret
                  exact ⟨ret_b (by rw [HE0.out]; simp), HB4.out⟩
theorem spec_isq (m h t : List UInt8) (v : Value) (B : Nat) (l : List Flds.Fld) (w : World) (hh : Flds.Holds w B v l) (hB : B ≤ w.heap.size) (hl : Flds.total l ≤ 1048576) (hm : m.length ≤ 1048576) (hhl : h.length ≤ 1048576) (ht : t.length ≤ 1048576) :
    Calls Tryz.prog 116 #[.agg #[.string ⟨m.toArray⟩, .string ⟨h.toArray⟩, .string ⟨t.toArray⟩, v]] w (BoolEnd (reqOk m h t l) w) :=
  spec_isq_s ⟨m.toArray⟩ ⟨h.toArray⟩ ⟨t.toArray⟩ v B l w hh hB hl (by rw [bsz]; exact hm) (by rw [bsz]; exact hhl) (by rw [bsz]; exact ht)
end Go.Proofs.YtojmkdggkaocdaaGreatDoor.Msg

/-
  CONTRACTS of the program's and the model's KeyOf; nothing that was there before is changed.
-/
namespace Go.Proofs.YtojmkdggkaocdaaGreatDoor.Nt
open Go Go.RowKit
set_option linter.unusedVariables false
set_option maxRecDepth 1000000
set_option maxRecDepth 1000000

theorem ntar_len (l : List UInt8) : (ntar l).1.length ≤ 2 * l.length + 4 := by
  have h1 := cut_len 63 l
  have h2 := normp_len (Tx.cutAt 63 l).1
  have h3 := normp_len (Tx.cutAt 63 l).2.1
  have h4 := pathd_len (normp (Tx.cutAt 63 l).1).1
  have h5 := query_len (normp (Tx.cutAt 63 l).2.1).1
  unfold ntar
  split
  · simp only
    split
    · omega
    · simp only [List.length_append, List.length_cons, List.length_nil]; omega
  · simp
/-- The one name of what a request asks for. -/
def keyp (m h t : List UInt8) (l : List Flds.Fld) : List UInt8 × Bool := if (ntar t).2 && Msg.reqOk m h t l then (h ++ (ntar t).1, true) else ([], false)

set_option maxHeartbeats 2000000 in
theorem impl_key (m h t : List UInt8) (v : Value) (B : Nat) (l : List Flds.Fld) (w : World) (hh : Flds.Holds w B v l) (hB : B ≤ w.heap.size) (hl : Flds.total l ≤ 1048576) (hm : m.length ≤ 1048576) (hhl : h.length ≤ 1048576) (ht : t.length ≤ 1048576) (he : Par.Errs w) (hmx : Sh.MxL w) :
    Calls Tryz.prog 72 #[.agg #[.string ⟨m.toArray⟩, .string ⟨h.toArray⟩, .string ⟨t.toArray⟩, v]] w (PairEnd (keyp m h t l) w) := by
  have HB0 : Hid (Below w.heap.size w (w.alloc (.cells #[.string ⟨m.toArray⟩, .string ⟨h.toArray⟩, .string ⟨t.toArray⟩, v] 62))) := Lib.hid ((Below.refl _ _).alloc (Nat.le_refl _) _)
  have HC := Lib.hid (fun (W : World) (hb : Below w.heap.size w W) => impl_nt t W (by omega) (Par.errs_below he hb) (Sh.mxl_below hmx hb))
  have HV := Lib.hid (fun (W : World) (hb : Below w.heap.size w W) => Msg.impl_valid_req m h t v B l W (Flds.holds_below hh (hb.mono hB)) (Nat.le_trans hB hb.size) hl hm hhl ht)
  have HK := Lib.hid (fun w1 (hb : Below (w.alloc (.cells #[.string ⟨m.toArray⟩, .string ⟨h.toArray⟩, .string ⟨t.toArray⟩, v] 62)).heap.size (w.alloc (.cells #[.string ⟨m.toArray⟩, .string ⟨h.toArray⟩, .string ⟨t.toArray⟩, v] 62)) w1) => And.intro (And.intro ((Kept.one hb).1 0 _ rfl) (And.intro ((Kept.one hb).1 1 _ rfl) (And.intro ((Kept.one hb).1 2 _ rfl) ((Kept.one hb).1 3 _ rfl)))) (Kept.below_in hb))
  have HE : Hid (keyp m h t l = if (ntar t).2 && Msg.reqOk m h t l then (h ++ (ntar t).1, true) else ([], false)) := Lib.hid rfl
  have HLN := Nt.ntar_len t
  unfold PairEnd at HC ⊢
  unfold Msg.BoolEnd at HV
  generalize keyp m h t l = res at *
  generalize ntar t = np at *
  generalize Msg.reqOk m h t l = z at *
  obtain ⟨r1, r2⟩ := np
  simp only at HC HE HLN
  have HA := Tx.addtwo h r1 (by omega)
  generalize h ++ r1 = hr at *
  clear hl hm hh ht hhl he hmx
  cases r2
  case false =>
    have HF : Hid (res = ([], false)) := Lib.hid (by rw [HE.out]; rfl)
    clear HE
    go_enter Tryz.func72, Tryz.ntmps72
    go_wp2_with (fail)
    go_at_call 119
    refine (HC.out _ HB0.out).mono ?_
    rintro e w1 ⟨rfl, b1⟩
    obtain ⟨⟨c0, c1, c2, c3⟩, hb1⟩ := HK.out _ b1
    have HB1 := Lib.hid hb1
    clear b1 hb1
    go_wp2
    go_ret2
    exact ⟨by rw [HF.out]; rfl, HB1.out⟩
  cases z
  all_goals
    first | (have HF : Hid (res = ([], false)) := Lib.hid (by rw [HE.out]; rfl)) | (have HF : Hid (res = (hr, true)) := Lib.hid (by rw [HE.out]; rfl))
    clear HE
    go_enter Tryz.func72, Tryz.ntmps72
    go_wp2_with (fail)
    go_at_call 119
    refine (HC.out _ HB0.out).mono ?_
    rintro e w1 ⟨rfl, b1⟩
    obtain ⟨⟨c0, c1, c2, c3⟩, hb1⟩ := HK.out _ b1
    have HB1 := Lib.hid hb1
    have HS1 := Lib.hid b1
    clear b1 hb1
    go_wp2_with (fail)
    go_at_call 120
    refine (HV.out _ HB1.out).mono ?_
    rintro e w2 ⟨rfl, b2⟩
    obtain ⟨⟨d0, d1, d2, d3⟩, hb2⟩ := HK.out _ (Base.then_below HS1.out b2)
    have HB2 := Lib.hid hb2
    clear b2 hb2
    go_wp2
    go_ret2
    exact ⟨by rw [HF.out]; rfl, HB2.out⟩

set_option maxHeartbeats 2000000 in
theorem spec_key (m h t : List UInt8) (v : Value) (B : Nat) (l : List Flds.Fld) (w : World) (hh : Flds.Holds w B v l) (hB : B ≤ w.heap.size) (hl : Flds.total l ≤ 1048576) (hm : m.length ≤ 1048576) (hhl : h.length ≤ 1048576) (ht : t.length ≤ 1048576) :
    Calls Tryz.prog 68 #[.agg #[.string ⟨m.toArray⟩, .string ⟨h.toArray⟩, .string ⟨t.toArray⟩, v]] w (PairEnd (keyp m h t l) w) := by
  have HB0 : Hid (Below w.heap.size w (w.alloc (.cells #[.string ⟨m.toArray⟩, .string ⟨h.toArray⟩, .string ⟨t.toArray⟩, v] 62))) := Lib.hid ((Below.refl _ _).alloc (Nat.le_refl _) _)
  have HC := Lib.hid (fun (W : World) (hb : Below w.heap.size w W) => spec_nt t W (by omega))
  have HV := Lib.hid (fun (W : World) (hb : Below w.heap.size w W) => Msg.spec_isq m h t v B l W (Flds.holds_below hh (hb.mono hB)) (Nat.le_trans hB hb.size) hl hm hhl ht)
  have HK := Lib.hid (fun w1 (hb : Below (w.alloc (.cells #[.string ⟨m.toArray⟩, .string ⟨h.toArray⟩, .string ⟨t.toArray⟩, v] 62)).heap.size (w.alloc (.cells #[.string ⟨m.toArray⟩, .string ⟨h.toArray⟩, .string ⟨t.toArray⟩, v] 62)) w1) => And.intro (And.intro ((Kept.one hb).1 0 _ rfl) (And.intro ((Kept.one hb).1 1 _ rfl) (And.intro ((Kept.one hb).1 2 _ rfl) ((Kept.one hb).1 3 _ rfl)))) (Kept.below_in hb))
  have HE : Hid (keyp m h t l = if (ntar t).2 && Msg.reqOk m h t l then (h ++ (ntar t).1, true) else ([], false)) := Lib.hid rfl
  have HLN := Nt.ntar_len t
  unfold PairEnd at HC ⊢
  unfold Msg.BoolEnd at HV
  generalize keyp m h t l = res at *
  generalize ntar t = np at *
  generalize Msg.reqOk m h t l = z at *
  obtain ⟨r1, r2⟩ := np
  simp only at HC HE HLN
  have HA := Tx.addtwo h r1 (by omega)
  generalize h ++ r1 = hr at *
  clear hl hm hh ht hhl
  cases r2
  case false =>
    have HF : Hid (res = ([], false)) := Lib.hid (by rw [HE.out]; rfl)
    clear HE
    go_enter Tryz.func68, Tryz.ntmps68
    go_wp2_with (fail)
    go_at_call 115
    refine (HC.out _ HB0.out).mono ?_
    rintro e w1 ⟨rfl, b1⟩
    obtain ⟨⟨c0, c1, c2, c3⟩, hb1⟩ := HK.out _ b1
    have HB1 := Lib.hid hb1
    clear b1 hb1
    go_wp2
    go_ret2
    exact ⟨by rw [HF.out]; rfl, HB1.out⟩
  cases z
  all_goals
    first | (have HF : Hid (res = ([], false)) := Lib.hid (by rw [HE.out]; rfl)) | (have HF : Hid (res = (hr, true)) := Lib.hid (by rw [HE.out]; rfl))
    clear HE
    go_enter Tryz.func68, Tryz.ntmps68
    go_wp2_with (fail)
    go_at_call 115
    refine (HC.out _ HB0.out).mono ?_
    rintro e w1 ⟨rfl, b1⟩
    obtain ⟨⟨c0, c1, c2, c3⟩, hb1⟩ := HK.out _ b1
    have HB1 := Lib.hid hb1
    have HS1 := Lib.hid b1
    clear b1 hb1
    go_wp2_with (fail)
    go_at_call 116
    refine (HV.out _ HB1.out).mono ?_
    rintro e w2 ⟨rfl, b2⟩
    obtain ⟨⟨d0, d1, d2, d3⟩, hb2⟩ := HK.out _ (Base.then_below HS1.out b2)
    have HB2 := Lib.hid hb2
    clear b2 hb2
    go_wp2
    go_ret2
    exact ⟨by rw [HF.out]; rfl, HB2.out⟩

end Go.Proofs.YtojmkdggkaocdaaGreatDoor.Nt
