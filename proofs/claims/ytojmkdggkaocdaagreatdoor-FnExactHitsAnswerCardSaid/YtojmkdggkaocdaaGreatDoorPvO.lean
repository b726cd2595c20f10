/-
  CONTRACTS AND PLAIN FACTS, several texts in one; each says in its own words what it proves.
-/
import Derived.Test.YtojmkdggkaocdaaGreatDoorPvL
import Derived.Test.YtojmkdggkaocdaaGreatDoorPvJ
import Derived.Test.YtojmkdggkaocdaaGreatDoorPvM
import Derived.Test.YtojmkdggkaocdaaGreatDoorPvN
import Derived.Test.YtojmkdggkaocdaaGreatDoorPvC
import Derived.Laws.DeepStrings4

/-
  CONTRACTS of the weights of qualities: the model's l13Weight, the program's readWeight and readParameter; nothing that was there before is changed.
-/
namespace Go.Proofs.YtojmkdggkaocdaaGreatDoor.Qua
open Go Go.RowKit
set_option linter.unusedVariables false
set_option maxRecDepth 1000000
set_option maxRecDepth 1000000

def wint (s : List UInt8) : Int := match wgt s with | some n => (n : Int) | none => -1
theorem wint_some {s : List UInt8} {n : Nat} (h : wgt s = some n) : wint s = n := by unfold wint; rw [h]
theorem wint_none {s : List UInt8} (h : wgt s = none) : wint s = -1 := by unfold wint; rw [h]
def wpair (o : Option Nat) : Value := match o with | some n => .tuple #[.int .i64 (n : Int), .bool true] | none => .tuple #[.int .i64 0, .bool false]
theorem wpair_some {o : Option Nat} {n : Nat} (h : o = some n) : wpair o = .tuple #[.int .i64 (n : Int), .bool true] := by rw [h]; rfl
theorem wpair_none {o : Option Nat} (h : o = none) : wpair o = .tuple #[.int .i64 0, .bool false] := by rw [h]; rfl
theorem ret_i {a b : Int} (h : a = b) : Ending.returned (.int .i64 a) = .returned (.int .i64 b) := by rw [h]
theorem ret_v {a b : Value} (h : a = b) : Ending.returned a = .returned b := by rw [h]
theorem bsz (y : List UInt8) : (⟨y.toArray⟩ : ByteArray).size = y.length := by simp [ByteArray.size]
theorem list_of {s : ByteArray} (h : 2 ≤ s.size) : s.data.toList = s[0] :: s[1] :: s.data.toList.drop 2 := by
  have h0 := Tx.drop_cons s 0 (by omega)
  have h1 := Tx.drop_cons s 1 (by omega)
  rw [List.drop_zero] at h0
  rw [h0, h1]; rfl
theorem list_one {s : ByteArray} (h : s.size = 1) : s.data.toList = [s[0]'(by omega)] := by
  have h0 := Tx.drop_cons s 0 (by omega)
  rw [List.drop_zero] at h0
  rw [h0, List.drop_of_length_le (by rw [Tx.list_len]; omega)]
def mid (s : ByteArray) (k : Nat) : List UInt8 := (s.data.toList.drop 2).take (k - 2)
theorem mid_more {s : ByteArray} {k : Nat} (h2 : 2 ≤ k) (hk : k < s.size) : mid s (k + 1) = mid s k ++ [s[k]] := by
  unfold mid
  rw [show k + 1 - 2 = (k - 2) + 1 by omega, List.take_add_one, List.getElem?_drop, show 2 + (k - 2) = k by omega]
  rw [List.getElem?_eq_getElem (by rw [Tx.list_len]; exact hk)]
  rfl
theorem mid_len {s : ByteArray} {k : Nat} (h : k ≤ s.size) : (mid s k).length = k - 2 := by
  unfold mid; rw [List.length_take, List.length_drop, Tx.list_len]; omega
theorem mid_all {s : ByteArray} : mid s s.size = s.data.toList.drop 2 := by
  unfold mid; exact List.take_of_length_le (by rw [List.length_drop, Tx.list_len]; omega)
theorem mid_two (s : ByteArray) : mid s 2 = [] := by unfold mid; simp
/-- The unit at a place. -/
def unt (k : Nat) : Int := ((10 ^ (4 - k) : Nat) : Int) * (if k ≤ 4 then 1 else 0)
theorem unt_cases {k : Nat} (h : 2 ≤ k) (h5 : k < 5) : (10 ^ (2 - (k - 2)) = 100 ∧ unt k = 100 ∧ unt (k + 1) = 10) ∨ (10 ^ (2 - (k - 2)) = 10 ∧ unt k = 10 ∧ unt (k + 1) = 1) ∨ (10 ^ (2 - (k - 2)) = 1 ∧ unt k = 1 ∧ unt (k + 1) = 0) := by
  have : k = 2 ∨ k = 3 ∨ k = 4 := by omega
  rcases this with rfl | rfl | rfl
  · exact Or.inl ⟨rfl, by decide, by decide⟩
  · exact Or.inr (Or.inl ⟨rfl, by decide, by decide⟩)
  · exact Or.inr (Or.inr ⟨rfl, by decide, by decide⟩)
theorem wfold_small {c : UInt8} {d : List UInt8} (hc : c.toNat ≤ 49) (hd : d.length ≤ 3) (h : digs d = true) : wfold c d ≤ 1999 := by
  have h1 := val_small d 1 (c.toNat - 48) (dig_iff h) (by omega)
  unfold wfold
  have h9 := dig_iff h
  match d, hd, h9 with
  | [], _, _ => rw [Par.val_nil]; simp; omega
  | [x], _, h9 => have := h9 x (by simp); simp only [Par.val, Par.stp, List.foldl_cons, List.foldl_nil, List.length_cons, List.length_nil]; omega
  | [x, y], _, h9 => have := h9 x (by simp); have := h9 y (by simp); simp only [Par.val, Par.stp, List.foldl_cons, List.foldl_nil, List.length_cons, List.length_nil]; omega
  | [x, y, z], _, h9 => have := h9 x (by simp); have := h9 y (by simp); have := h9 z (by simp); simp only [Par.val, Par.stp, List.foldl_cons, List.foldl_nil, List.length_cons, List.length_nil]; omega
theorem digs_more {d : List UInt8} {x : UInt8} (h : digs d = true) (h1 : 48 ≤ (x.toNat : Int)) (h2 : (x.toNat : Int) ≤ 57) : digs (d ++ [x]) = true := by
  unfold digs at h ⊢; rw [List.all_append, h]; simp [Par.isDig]; omega
theorem digs_bad {s : ByteArray} {k : Nat} (h2 : 2 ≤ k) (hk : k < s.size) (h : (s[k].toNat : Int) < 48 ∨ 57 < (s[k].toNat : Int)) : digs (s.data.toList.drop 2) = false := by
  unfold digs
  rw [List.all_eq_false]
  refine ⟨s[k], ?_, by simp [Par.isDig]; omega⟩
  have : s[k] = (s.data.toList.drop 2)[k - 2]'(by rw [List.length_drop, Tx.list_len]; omega) := by
    rw [List.getElem_drop]; simp only [show 2 + (k - 2) = k by omega]; rfl
  rw [this]; exact List.getElem_mem _

set_option maxHeartbeats 4000000 in
/-- From two bytes on, the first of them 0 or 1 and the second a point. -/
theorem spec_weight_dot (s : ByteArray) (w : World) (h2 : 2 ≤ s.size) (h5 : s.size ≤ 5) (c : UInt8) (hcc : c = 48 ∨ c = 49) (hs0 : s[0] = c) (hs1 : s[1] = 46) :
    Calls Tryz.prog 134 #[.string s] w fun e w' => e = .returned (.int .i64 (wint s.data.toList)) ∧ w = w' := by
  have hl : s.data.toList = c :: 46 :: s.data.toList.drop 2 := by rw [← hs0, ← hs1]; exact list_of h2
  have hW : wgt s.data.toList = if (s.data.toList.drop 2).length ≤ 3 ∧ digs (s.data.toList.drop 2) = true ∧ wfold c (s.data.toList.drop 2) ≤ 1000 then some (wfold c (s.data.toList.drop 2)) else none := by
    conv => lhs; rw [hl]
    exact wgt_dot hcc
  have hdl : (s.data.toList.drop 2).length ≤ 3 := by rw [List.length_drop, Tx.list_len]; omega
  have HBIG : Hid (digs (s.data.toList.drop 2) = true → 1000 < wfold c (s.data.toList.drop 2) → wint s.data.toList = -1) := Lib.hid (fun a b => wint_none (by rw [hW, if_neg (fun x => by have := x.2.2; omega)]))
  have HOK : Hid (digs (s.data.toList.drop 2) = true → wfold c (s.data.toList.drop 2) ≤ 1000 → wint s.data.toList = (wfold c (s.data.toList.drop 2) : Int)) := Lib.hid (fun a b => wint_some (by rw [hW, if_pos ⟨hdl, a, b⟩]))
  have HBD : Hid (digs (s.data.toList.drop 2) = false → wint s.data.toList = -1) := Lib.hid (fun a => wint_none (by rw [hW, if_neg (fun x => by rw [a] at x; exact Bool.noConfusion x.2.1)]))
  clear hl hW hdl
  have hc0 : 48 ≤ (s[0].toNat : Int) ∧ (s[0].toNat : Int) ≤ 49 := by rw [hs0]; rcases hcc with rfl | rfl <;> decide
  have HC0 : Hid ((s[0].toNat : Int) = (c.toNat : Int)) := Lib.hid (by rw [hs0])
  have HC9 : Hid (c.toNat ≤ 49 ∧ 48 ≤ c.toNat) := Lib.hid (by rcases hcc with rfl | rfl <;> decide)
  have d1 : ((s[1].toNat : Int) != 46) = false := by rw [hs1]; decide
  have e1 : (s.size : Int) ≤ 5 := by omega
  have e2 : 1 < (s.size : Int) := by omega
  have e3 : ¬ 5 < (s.size : Int) := by omega
  have hn0 : ((s.size : Int) == 0) = false := by rw [beq_eq_false_iff_ne]; omega
  have hn1 : ¬ (s.size : Int) = 0 := by omega
  obtain ⟨c1, c2⟩ := hc0
  have d0 : (((s[0].toNat : Int) != 48) && ((s[0].toNat : Int) != 49)) = false := by rw [hs0]; rcases hcc with rfl | rfl <;> decide
  clear hs1
  rcases hz : ((s[0].toNat : Int) != 48) with _ | _
  · clear d0 hs0 hcc
    go_enter Tryz.func134, Tryz.ntmps134
    go_wp2
    go_loop [3, 4, 5] (fun n u i => ∃ (k : Nat) (nn uu : Int), 2 ≤ k ∧ k ≤ s.size ∧ i = .int .i64 (k : Int) ∧ n = .int .i64 nn ∧ u = .int .i64 uu ∧ nn = (wfold c (mid s k) : Int) ∧ uu = unt k ∧ digs (mid s k) = true) (fun _ _ i => s.size - (intOf i).toNat)
    case atStart => exact ⟨2, _, _, Nat.le_refl _, h2, rfl, rfl, rfl, by rw [mid_two]; have := HC0.out; have := HC9.out; unfold wfold; rw [Par.val_nil]; simp; omega, by decide, by rw [mid_two]; rfl⟩
    case round =>
      obtain ⟨k, nn, uu, hk2, hk, rfl, rfl, rfl, hn, hu, hdg⟩ := hrel
      have HD := Lib.hid hdg
      have HNN := Lib.hid hn
      have hb1 : 0 ≤ nn ∧ nn ≤ 1999 := by
        have := wfold_small HC9.out.1 (by rw [mid_len hk]; omega) hdg
        omega
      clear hdg hn
      by_cases hlt : k < s.size
      · have hb255 : (s[k].toNat : Int) ≤ 255 := by have := s[k].toNat_lt; omega
        have hki : (k : Int) < (s.size : Int) := by omega
        by_cases hx : 48 ≤ (s[k].toNat : Int) ∧ (s[k].toNat : Int) ≤ 57
        · obtain ⟨x1, x2⟩ := hx
          have HM : Hid (wfold c (mid s (k + 1)) = wfold c (mid s k) + 10 ^ (2 - (mid s k).length) * (s[k].toNat - 48)) := Lib.hid (by rw [mid_more hk2 hlt]; exact wfold_more (by rw [mid_len hk]; omega))
          have HML : Hid ((mid s k).length = k - 2) := Lib.hid (mid_len hk)
          have HDM : Hid (digs (mid s (k + 1)) = true) := Lib.hid (by rw [mid_more hk2 hlt]; exact digs_more HD.out x1 x2)
          obtain ⟨b1, b2⟩ := hb1
          rcases unt_cases hk2 (by omega) with ⟨hq, hq2, hq3⟩ | ⟨hq, hq2, hq3⟩ | ⟨hq, hq2, hq3⟩
          all_goals
            rw [hq2] at hu
            subst hu
            have HQ := Lib.hid hq
            have HQ3 := Lib.hid hq3
            clear hq hq2 hq3
            go_wp2_with (go_at_call 36; (with_reducible refine (NumDiv.in_yes _ _ _ _ x1 x2).mono ?_); rintro e w' ⟨rfl, rfl⟩)
            go_round
            case rel => exact ⟨k + 1, _, _, by omega, by omega, by go_num, rfl, rfl, by have h1 := HM.out; rw [HML.out, HQ.out] at h1; rw [h1]; have := HNN.out; omega, by first | exact HQ3.out.symm | (rw [HQ3.out]; first | done | rfl | decide), HDM.out⟩
            case measure => simp [intOf]; omega
        · have HQ : Hid ((s[k].toNat : Int) < 48 ∨ 57 < (s[k].toNat : Int)) := Lib.hid (by omega)
          have HE := Lib.hid (HBD.out (digs_bad hk2 hlt HQ.out))
          clear hx
          go_wp2_with (go_at_call 36; (with_reducible refine (NumDiv.in_no _ _ _ _ HQ.out).mono ?_); rintro e w' ⟨rfl, rfl⟩)
          go_ret
          exact ⟨ret_i HE.out.symm, rfl⟩
      · obtain rfl : k = s.size := by omega
        rw [mid_all] at HD HNN
        by_cases hbig : 1000 < nn
        · have HE := Lib.hid (HBIG.out HD.out (by have := HNN.out; omega))
          go_wp2
          go_ret
          exact ⟨ret_i HE.out.symm, rfl⟩
        · have HE : Hid (wint s.data.toList = nn) := Lib.hid (by rw [HOK.out HD.out (by have := HNN.out; omega)]; exact HNN.out.symm)
          go_wp2
          go_ret
          exact ⟨ret_i HE.out.symm, rfl⟩
  · have d2 : ((s[0].toNat : Int) != 49) = false := by rw [hz] at d0; simpa using d0
    clear d0 hs0 hcc
    go_enter Tryz.func134, Tryz.ntmps134
    go_wp2
    go_loop [3, 4, 5] (fun n u i => ∃ (k : Nat) (nn uu : Int), 2 ≤ k ∧ k ≤ s.size ∧ i = .int .i64 (k : Int) ∧ n = .int .i64 nn ∧ u = .int .i64 uu ∧ nn = (wfold c (mid s k) : Int) ∧ uu = unt k ∧ digs (mid s k) = true) (fun _ _ i => s.size - (intOf i).toNat)
    case atStart => exact ⟨2, _, _, Nat.le_refl _, h2, rfl, rfl, rfl, by rw [mid_two]; have := HC0.out; have := HC9.out; unfold wfold; rw [Par.val_nil]; simp; omega, by decide, by rw [mid_two]; rfl⟩
    case round =>
      obtain ⟨k, nn, uu, hk2, hk, rfl, rfl, rfl, hn, hu, hdg⟩ := hrel
      have HD := Lib.hid hdg
      have HNN := Lib.hid hn
      have hb1 : 0 ≤ nn ∧ nn ≤ 1999 := by
        have := wfold_small HC9.out.1 (by rw [mid_len hk]; omega) hdg
        omega
      clear hdg hn
      by_cases hlt : k < s.size
      · have hb255 : (s[k].toNat : Int) ≤ 255 := by have := s[k].toNat_lt; omega
        have hki : (k : Int) < (s.size : Int) := by omega
        by_cases hx : 48 ≤ (s[k].toNat : Int) ∧ (s[k].toNat : Int) ≤ 57
        · obtain ⟨x1, x2⟩ := hx
          have HM : Hid (wfold c (mid s (k + 1)) = wfold c (mid s k) + 10 ^ (2 - (mid s k).length) * (s[k].toNat - 48)) := Lib.hid (by rw [mid_more hk2 hlt]; exact wfold_more (by rw [mid_len hk]; omega))
          have HML : Hid ((mid s k).length = k - 2) := Lib.hid (mid_len hk)
          have HDM : Hid (digs (mid s (k + 1)) = true) := Lib.hid (by rw [mid_more hk2 hlt]; exact digs_more HD.out x1 x2)
          obtain ⟨b1, b2⟩ := hb1
          rcases unt_cases hk2 (by omega) with ⟨hq, hq2, hq3⟩ | ⟨hq, hq2, hq3⟩ | ⟨hq, hq2, hq3⟩
          all_goals
            rw [hq2] at hu
            subst hu
            have HQ := Lib.hid hq
            have HQ3 := Lib.hid hq3
            clear hq hq2 hq3
            go_wp2_with (go_at_call 36; (with_reducible refine (NumDiv.in_yes _ _ _ _ x1 x2).mono ?_); rintro e w' ⟨rfl, rfl⟩)
            go_round
            case rel => exact ⟨k + 1, _, _, by omega, by omega, by go_num, rfl, rfl, by have h1 := HM.out; rw [HML.out, HQ.out] at h1; rw [h1]; have := HNN.out; omega, by first | exact HQ3.out.symm | (rw [HQ3.out]; first | done | rfl | decide), HDM.out⟩
            case measure => simp [intOf]; omega
        · have HQ : Hid ((s[k].toNat : Int) < 48 ∨ 57 < (s[k].toNat : Int)) := Lib.hid (by omega)
          have HE := Lib.hid (HBD.out (digs_bad hk2 hlt HQ.out))
          clear hx
          go_wp2_with (go_at_call 36; (with_reducible refine (NumDiv.in_no _ _ _ _ HQ.out).mono ?_); rintro e w' ⟨rfl, rfl⟩)
          go_ret
          exact ⟨ret_i HE.out.symm, rfl⟩
      · obtain rfl : k = s.size := by omega
        rw [mid_all] at HD HNN
        by_cases hbig : 1000 < nn
        · have HE := Lib.hid (HBIG.out HD.out (by have := HNN.out; omega))
          go_wp2
          go_ret
          exact ⟨ret_i HE.out.symm, rfl⟩
        · have HE : Hid (wint s.data.toList = nn) := Lib.hid (by rw [HOK.out HD.out (by have := HNN.out; omega)]; exact HNN.out.symm)
          go_wp2
          go_ret
          exact ⟨ret_i HE.out.symm, rfl⟩

set_option maxHeartbeats 4000000 in
theorem spec_weight_s (s : ByteArray) (w : World) (hs : s.size ≤ 4194304) :
    Calls Tryz.prog 134 #[.string s] w fun e w' => e = .returned (.int .i64 (wint s.data.toList)) ∧ w = w' := by
  by_cases h0 : s.size = 0
  · have HE : Hid (wint s.data.toList = -1) := Lib.hid (wint_none (by have hnil : s.data.toList = [] := List.eq_nil_of_length_eq_zero (by rw [Tx.list_len]; exact h0); rw [hnil]; rfl))
    have h0' : (s.size : Int) = 0 := by omega
    go_enter Tryz.func134, Tryz.ntmps134
    go_wp2
    go_ret
    exact ⟨ret_i HE.out.symm, rfl⟩
  have hn0 : ¬ (s.size : Int) = 0 := by omega
  have hp : 0 < s.size := by omega
  by_cases h6 : 5 < s.size
  · have HE : Hid (wint s.data.toList = -1) := Lib.hid (wint_none (wgt_long (by rw [Tx.list_len]; exact h6)))
    have h6' : 5 < (s.size : Int) := by omega
    go_enter Tryz.func134, Tryz.ntmps134
    go_wp2
    go_ret
    exact ⟨ret_i HE.out.symm, rfl⟩
  have h6' : ¬ 5 < (s.size : Int) := by omega
  have hd0 := Tx.drop_cons s 0 hp
  rw [List.drop_zero] at hd0
  by_cases hc : s[0] = 48 ∨ s[0] = 49
  case neg =>
    have HE : Hid (wint s.data.toList = -1) := Lib.hid (wint_none (by rw [hd0]; exact wgt_head ⟨fun e => hc (Or.inl e), fun e => hc (Or.inr e)⟩))
    have d1 : ((s[0].toNat : Int) != 48) = true := by
      rw [bne_iff_ne]; intro e; exact hc (Or.inl (UInt8.toNat_inj.1 (by simp; omega)))
    have d2 : ((s[0].toNat : Int) != 49) = true := by
      rw [bne_iff_ne]; intro e; exact hc (Or.inr (UInt8.toNat_inj.1 (by simp; omega)))
    clear hd0 hc
    go_enter Tryz.func134, Tryz.ntmps134
    go_wp2
    go_ret
    exact ⟨ret_i HE.out.symm, rfl⟩
  by_cases h1 : s.size = 1
  · have hl1 := list_one h1
    have HE : Hid (wint s.data.toList = 1000 * ((s[0].toNat : Int) - 48)) := Lib.hid (by
      rw [wint_some (n := wfold s[0] []) (by rw [hl1]; exact wgt_one hc)]
      unfold wfold; rw [Par.val_nil]; rcases hc with e | e <;> rw [e] <;> decide)
    have hc0 : 48 ≤ (s[0].toNat : Int) ∧ (s[0].toNat : Int) ≤ 49 := by rcases hc with e | e <;> rw [e] <;> decide
    obtain ⟨c1, c2⟩ := hc0
    have e2 : ¬ 1 < (s.size : Int) := by omega
    have e3 : ¬ (2 : Int) < (s.size : Int) := by omega
    have d0 : (((s[0].toNat : Int) != 48) && ((s[0].toNat : Int) != 49)) = false := by rcases hc with e | e <;> rw [e] <;> decide
    have hbig : ¬ 1000 < 1000 * ((s[0].toNat : Int) - 48) := by omega
    clear hd0 hc hl1
    rcases hz : ((s[0].toNat : Int) != 48) with _ | _
    · clear d0
      go_enter Tryz.func134, Tryz.ntmps134
      go_wp2
      go_loop [3, 4, 5] (fun n u i => n = .int .i64 (1000 * ((s[0].toNat : Int) - 48)) ∧ u = .int .i64 100 ∧ i = .int .i64 2) (fun _ _ i => 0)
      case atStart => exact ⟨rfl, rfl, rfl⟩
      case round =>
        obtain ⟨rfl, rfl, rfl⟩ := hrel
        go_wp2
        go_ret
        exact ⟨ret_i HE.out.symm, rfl⟩
    · have d2 : ((s[0].toNat : Int) != 49) = false := by rw [hz] at d0; simpa using d0
      clear d0
      go_enter Tryz.func134, Tryz.ntmps134
      go_wp2
      go_loop [3, 4, 5] (fun n u i => n = .int .i64 (1000 * ((s[0].toNat : Int) - 48)) ∧ u = .int .i64 100 ∧ i = .int .i64 2) (fun _ _ i => 0)
      case atStart => exact ⟨rfl, rfl, rfl⟩
      case round =>
        obtain ⟨rfl, rfl, rfl⟩ := hrel
        go_wp2
        go_ret
        exact ⟨ret_i HE.out.symm, rfl⟩
  have h2 : 2 ≤ s.size := by omega
  by_cases hx : s[1] = 46
  · exact spec_weight_dot s w h2 (by omega) s[0] hc rfl hx
  · have HE : Hid (wint s.data.toList = -1) := Lib.hid (wint_none (by rw [list_of h2]; exact wgt_other hx))
    have e2 : 1 < (s.size : Int) := by omega
    have d1 : ((s[1].toNat : Int) != 46) = true := by
      rw [bne_iff_ne]; intro e; exact hx (UInt8.toNat_inj.1 (by simp; omega))
    have d0 : (((s[0].toNat : Int) != 48) && ((s[0].toNat : Int) != 49)) = false := by rcases hc with e | e <;> rw [e] <;> decide
    clear hd0 hc hx
    rcases hz : ((s[0].toNat : Int) != 48) with _ | _
    · clear d0
      go_enter Tryz.func134, Tryz.ntmps134
      go_wp2
      go_ret
      exact ⟨ret_i HE.out.symm, rfl⟩
    · have d2 : ((s[0].toNat : Int) != 49) = false := by rw [hz] at d0; simpa using d0
      clear d0
      go_enter Tryz.func134, Tryz.ntmps134
      go_wp2
      go_ret
      exact ⟨ret_i HE.out.symm, rfl⟩
end Go.Proofs.YtojmkdggkaocdaaGreatDoor.Qua
