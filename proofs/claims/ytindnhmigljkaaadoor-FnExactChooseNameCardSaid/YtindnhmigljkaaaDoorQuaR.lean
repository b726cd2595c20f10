/-
  CONTRACTS of the program's readWeight and readParameter; nothing that was there before is changed.
-/
import Derived.Test.YtindnhmigljkaaaDoorQuaW
import Derived.Test.YtindnhmigljkaaaDoorSplLen
namespace Go.Proofs.YtindnhmigljkaaaDoor.Qua
open Go Go.RowKit
set_option linter.unusedVariables false
set_option maxRecDepth 1000000
set_option maxRecDepth 1000000

theorem ext_zeros (n : Nat) (h : n ≤ 3) : (⟨#[48, 48, 48]⟩ : ByteArray).extract n 3 = ⟨(List.replicate (3 - n) 48).toArray⟩ := by
  have : n = 0 ∨ n = 1 ∨ n = 2 ∨ n = 3 := by omega
  rcases this with rfl | rfl | rfl | rfl <;> rfl
theorem cut_pt (r : List UInt8) (W : World) (hl : r.length ≤ 4194304) : Calls Tryd.prog 60 #[.string ⟨r.toArray⟩, .string ⟨#[46]⟩] W fun e w' => e = .returned (.tuple #[.string ⟨(Tx.cutAt 46 r).1.toArray⟩, .string ⟨(Tx.cutAt 46 r).2.1.toArray⟩, .bool (Tx.cutAt 46 r).2.2]) ∧ Below W.heap.size W w' := Tx.cut_any ⟨r.toArray⟩ 46 W (by simp [ByteArray.size]; omega)
theorem wpair_at {o : Option Nat} {v : Value} {w w' : World} (h : wpair o = v) (hb : Below w.heap.size w w') : Ending.returned v = .returned (wpair o) ∧ Below w.heap.size w w' := ⟨by rw [h], hb⟩

set_option maxHeartbeats 4000000 in
theorem impl_weight (l : List UInt8) (w : World) (hl : l.length ≤ 1048576) (he : Par.Errs w) :
    Calls Tryd.prog 47 #[.string ⟨l.toArray⟩] w fun e w' => e = .returned (wpair (wgt l)) ∧ Below w.heap.size w w' := by
  have HC := Lib.hid (fun W => cut_pt l W (by omega))
  have HER := Lib.hid (fun W (hb : Below w.heap.size w W) => Par.errs_below he hb)
  have HWG : Hid (wgt l = wgt2 (Tx.cutAt 46 l).1 (Tx.cutAt 46 l).2.1) := Lib.hid rfl
  have hcl := Tx.cutAt_len 46 l
  generalize wgt l = g at *
  generalize Tx.cutAt 46 l = ct at *
  obtain ⟨a, d, b⟩ := ct
  simp only at HC HWG hcl
  have hbs := bsz d
  have hdl : d.length ≤ 1048576 := by omega
  clear he hl hcl
  by_cases ha : a = [48] ∨ a = [49]
  case neg =>
    have HF := Lib.hid (wpair_none (HWG.out.trans (wgt2_no (fun x => ha x.1))))
    have q1 : (a != [48]) = true := by rw [bne_iff_ne]; exact fun e => ha (Or.inl e)
    have q2 : (a != [49]) = true := by rw [bne_iff_ne]; exact fun e => ha (Or.inr e)
    have n1 : ¬ a = [48] := fun e => ha (Or.inl e)
    have n2 : ¬ a = [49] := fun e => ha (Or.inr e)
    clear HWG HER ha
    go_enter Tryd.func47, Tryd.ntmps47
    go_wp2_with (fail)
    go_at_call 60
    refine (HC.out _).mono ?_
    rintro e w1 ⟨rfl, b1⟩
    have HB := Lib.hid b1
    clear b1
    go_wp2
    go_ret2
    exact wpair_at HF.out HB.out
  by_cases h3 : (d.length : Int) ≤ 3
  case neg =>
    have h3' : 3 < (d.length : Int) := by omega
    have HF := Lib.hid (wpair_none (HWG.out.trans (wgt2_no (fun x => by have := x.2; omega))))
    clear HWG HER
    rcases ha with rfl | rfl
    all_goals
      go_enter Tryd.func47, Tryd.ntmps47
      go_wp2_with (fail)
      go_at_call 60
      refine (HC.out _).mono ?_
      rintro e w1 ⟨rfl, b1⟩
      have HB := Lib.hid b1
      clear b1
      go_wp2
      go_ret2
      exact wpair_at HF.out HB.out
  have h3' : ¬ 3 < (d.length : Int) := by omega
  have hdn : d.length ≤ 3 := by omega
  have HX := Lib.hid (ext_zeros d.length hdn)
  have HZL : Hid ((List.replicate (3 - d.length) (48 : UInt8)).length ≤ 3) := Lib.hid (by simp)
  have HA := Lib.hid ha
  have HAT : Hid (digs d = true → Lib.atoiAll (⟨(a ++ d ++ List.replicate (3 - d.length) 48).toArray⟩ : ByteArray).data.toList = .ok (wnum a d : Int)) := Lib.hid (fun h => atoi_w ha hdn h)
  have HAF : Hid (digs d = false → ∀ v, Lib.atoiAll (⟨(a ++ d ++ List.replicate (3 - d.length) 48).toArray⟩ : ByteArray).data.toList ≠ .ok v) := Lib.hid (fun h => atoi_no ha hdn h)
  have HSZ : Hid ((⟨(a ++ d ++ List.replicate (3 - d.length) 48).toArray⟩ : ByteArray).size ≤ 281474976710656) := Lib.hid (by rw [bsz]; rcases ha with rfl | rfl <;> simp <;> omega)
  have A1 := Tx.addtwo a d (by rcases ha with rfl | rfl <;> simp <;> omega)
  have A2 : ∀ W : World, (Op.stringOp .add ⟨(a ++ d).toArray⟩ ((⟨#[48, 48, 48]⟩ : ByteArray).extract d.length 3)).run Tryd.prog W = .ok (.string ⟨(a ++ d ++ List.replicate (3 - d.length) 48).toArray⟩) W := by
    rw [HX.out]; exact Tx.addtwo (a ++ d) _ (by rcases ha with rfl | rfl <;> simp <;> omega)
  generalize a ++ d ++ List.replicate (3 - d.length) 48 = al at *
  generalize hz1 : a ++ d = ad at *
  have hi3 : (d.length : Int).toNat = d.length := by omega
  have HW1 : Hid (digs d = true → wnum a d ≤ 1000 → g = some (wnum a d)) := Lib.hid (fun h1 h2 => HWG.out.trans (wgt2_yes ha hdn h1 h2))
  have HW2 : Hid (1000 < wnum a d → g = none) := Lib.hid (fun h2 => HWG.out.trans (wgt2_big h2))
  have HW3 : Hid (digs d = false → g = none) := Lib.hid (fun h2 => HWG.out.trans (wgt2_dig h2))
  generalize wnum a d = n at *
  clear HWG hz1 HX HZL
  cases hd : digs d with
  | false =>
    have HF := Lib.hid (wpair_none (HW3.out hd))
    have HAE := Lib.hid (fun W hb => Par.atoi_err ⟨al.toArray⟩ HSZ.out (HAF.out hd) W (HER.out W hb))
    clear HW1 HW2 HW3 HAT HAF hd HER
    rcases ha with rfl | rfl
    all_goals
      go_enter Tryd.func47, Tryd.ntmps47
      go_wp2_with (fail)
      go_at_call 60
      refine (HC.out _).mono ?_
      rintro e w1 ⟨rfl, b1⟩
      have HB := Lib.hid b1
      clear b1
      go_wp2_with (fail)
      go_at_call 61
      refine (HAE.out _ HB.out).mono ?_
      rintro e w2 ⟨⟨z, p, rfl⟩, b2⟩
      have HB2 := Lib.hid (Base.then_below HB.out b2)
      clear b2
      go_wp2
      go_ret2
      exact wpair_at HF.out HB2.out
  | true =>
    have HAE := Lib.hid (fun W => Par.atoi_ok ⟨al.toArray⟩ HSZ.out n (HAT.out hd) W)
    by_cases hn : n ≤ 1000
    · have HF := Lib.hid (wpair_some (HW1.out hd hn))
      have hn' : ¬ 1000 < (n : Int) := by omega
      clear HW1 HW2 HW3 HAT HAF hd HER
      rcases ha with rfl | rfl
      all_goals
        go_enter Tryd.func47, Tryd.ntmps47
        go_wp2_with (fail)
        go_at_call 60
        refine (HC.out _).mono ?_
        rintro e w1 ⟨rfl, b1⟩
        have HB := Lib.hid b1
        clear b1
        go_wp2_with (fail)
        go_at_call 61
        refine (HAE.out _).mono ?_
        rintro e w2 ⟨rfl, b2⟩
        have HB2 := Lib.hid (Base.then_below HB.out b2)
        clear b2
        go_wp2
        go_ret2
        exact wpair_at HF.out HB2.out
    · have HF := Lib.hid (wpair_none (HW2.out (by omega)))
      have hn' : 1000 < (n : Int) := by omega
      clear HW1 HW2 HW3 HAT HAF hd HER
      rcases ha with rfl | rfl
      all_goals
        go_enter Tryd.func47, Tryd.ntmps47
        go_wp2_with (fail)
        go_at_call 60
        refine (HC.out _).mono ?_
        rintro e w1 ⟨rfl, b1⟩
        have HB := Lib.hid b1
        clear b1
        go_wp2_with (fail)
        go_at_call 61
        refine (HAE.out _).mono ?_
        rintro e w2 ⟨rfl, b2⟩
        have HB2 := Lib.hid (Base.then_below HB.out b2)
        clear b2
        go_wp2
        go_ret2
        exact wpair_at HF.out HB2.out

set_option maxHeartbeats 4000000 in
theorem impl_param (l : List UInt8) (w : World) (hl : l.length ≤ 1048576) (he : Par.Errs w) :
    Calls Tryd.prog 40 #[.string ⟨l.toArray⟩] w fun e w' => e = .returned (wpair (qpar l)) ∧ Below w.heap.size w w' := by
  obtain ⟨⟨a, b, q⟩, hp⟩ : ∃ p, Tx.pairs l = p := ⟨_, rfl⟩
  have hla : a.length ≤ 1048576 ∧ b.length ≤ 1048576 := by
    have h1 := Tx.cutAt_len 61 l
    have h2 := Tx.trim_short (Tx.cutAt 61 l).1
    have h3 := Tx.trim_short (Tx.cutAt 61 l).2.1
    unfold Tx.pairs at hp
    cases hp
    omega
  have HP := Lib.hid (Dir.pair_i hp hl)
  have HL := Lib.hid (Dir.low_i a hla.1)
  have HWT := Lib.hid (fun W (hb : Below w.heap.size w W) => impl_weight b W hla.2 (Par.errs_below he hb))
  have HE : Hid (qpar l = if Tx.lower a = [113] then wgt b else none) := Lib.hid (by unfold qpar; rw [hp])
  generalize qpar l = g at *
  generalize Tx.lower a = la at *
  clear hp he
  by_cases h : la = [113]
  · subst h
    have HF : Hid (wpair g = wpair (wgt b)) := Lib.hid (by rw [HE.out, if_pos rfl])
    clear HE
    cases hg : wgt b with
    | none =>
      rw [hg] at HF HWT
      have hq : wpair none = .tuple #[.int .i64 0, .bool false] := rfl
      rw [hq] at HWT HF
      go_enter Tryd.func40, Tryd.ntmps40
      go_wp2_with (fail)
      go_at_call 46
      refine (HP.out _).mono ?_
      rintro e w1 ⟨rfl, b1⟩
      have HB := Lib.hid b1
      clear b1
      go_wp2_with (fail)
      go_at_call 41
      refine (HL.out _).mono ?_
      rintro e w2 ⟨rfl, b2⟩
      have HB := Lib.hid (Base.then_below HB.out b2)
      clear b2
      go_wp2_with (fail)
      go_at_call 47
      refine (HWT.out _ HB.out).mono ?_
      rintro e w3 ⟨rfl, b3⟩
      have HB := Lib.hid (Base.then_below HB.out b3)
      clear b3
      go_wp2
      go_ret2
      exact wpair_at HF.out HB.out
    | some n =>
      rw [hg] at HF HWT
      have hq : wpair (some n) = .tuple #[.int .i64 (n : Int), .bool true] := rfl
      rw [hq] at HWT HF
      go_enter Tryd.func40, Tryd.ntmps40
      go_wp2_with (fail)
      go_at_call 46
      refine (HP.out _).mono ?_
      rintro e w1 ⟨rfl, b1⟩
      have HB := Lib.hid b1
      clear b1
      go_wp2_with (fail)
      go_at_call 41
      refine (HL.out _).mono ?_
      rintro e w2 ⟨rfl, b2⟩
      have HB := Lib.hid (Base.then_below HB.out b2)
      clear b2
      go_wp2_with (fail)
      go_at_call 47
      refine (HWT.out _ HB.out).mono ?_
      rintro e w3 ⟨rfl, b3⟩
      have HB := Lib.hid (Base.then_below HB.out b3)
      clear b3
      go_wp2
      go_ret2
      exact wpair_at HF.out HB.out
  · have HF := Lib.hid (wpair_none (HE.out.trans (if_neg h)))
    have hq : (la == [113]) = false := beq_eq_false_iff_ne.2 h
    have hq2 : (!la == [113]) = true := by rw [hq]; rfl
    clear HE
    go_enter Tryd.func40, Tryd.ntmps40
    go_wp2_with (fail)
    go_at_call 46
    refine (HP.out _).mono ?_
    rintro e w1 ⟨rfl, b1⟩
    have HB := Lib.hid b1
    clear b1
    go_wp2_with (fail)
    go_at_call 41
    refine (HL.out _).mono ?_
    rintro e w2 ⟨rfl, b2⟩
    have HB := Lib.hid (Base.then_below HB.out b2)
    clear b2
    go_wp2
    go_ret2
    exact wpair_at HF.out HB.out
end Go.Proofs.YtindnhmigljkaaaDoor.Qua
