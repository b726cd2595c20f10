/-
  CONTRACTS of the program's NormalTarget and IsNormalTarget; nothing that was there before is changed.
-/
import Derived.Test.YtkedndamkjnmkaaGreatDoorNtN
import Derived.Test.YtkedndamkjnmkaaGreatDoorNtSo
import Derived.Test.YtkedndamkjnmkaaGreatDoorTgtFn
namespace Go.Proofs.YtkedndamkjnmkaaGreatDoor.Nt
open Go Go.RowKit
set_option linter.unusedVariables false
set_option maxRecDepth 1000000
set_option maxRecDepth 1000000

/-- The target in its one way, and whether it is good. -/
def ntar (l : List UInt8) : List UInt8 × Bool :=
  if (normp (Tx.cutAt 63 l).1).2 = true ∧ (normp (Tx.cutAt 63 l).2.1).2 = true ∧ [47].isPrefixOf (normp (Tx.cutAt 63 l).1).1 = true then
    (if query (normp (Tx.cutAt 63 l).2.1).1 = [] then pathd (normp (Tx.cutAt 63 l).1).1 else pathd (normp (Tx.cutAt 63 l).1).1 ++ [63] ++ query (normp (Tx.cutAt 63 l).2.1).1, true)
  else ([], false)
theorem cut_len (c : UInt8) (l : List UInt8) : (Tx.cutAt c l).1.length ≤ l.length ∧ (Tx.cutAt c l).2.1.length ≤ l.length := by
  unfold Tx.cutAt; split
  · constructor
    · simp only [List.length_take]; omega
    · simp only [List.length_drop]; omega
  · exact ⟨Nat.le_refl _, Nat.zero_le _⟩
theorem bs_len (l : List UInt8) : (⟨l.toArray⟩ : ByteArray).size = l.length := by show l.toArray.size = _; simp
theorem pre_one {l : List UInt8} (h : [47].isPrefixOf l = true) : 1 ≤ l.length := by
  cases l with
  | nil => simp at h
  | cons x r => simp

set_option maxHeartbeats 8000000 in
theorem impl_nt (l : List UInt8) (w : World) (hl : l.length ≤ 4194200) (he : Par.Errs w) (hm : Sh.MxL w) :
    Calls Tryz.prog 22 #[.string ⟨l.toArray⟩] w (PairEnd (ntar l) w) := by
  have hc := cut_len 63 l
  have HC := Lib.hid (Tx.impl_tgt l w (by omega))
  have HN : Hid (ntar l = if (normp (Tx.cutAt 63 l).1).2 = true ∧ (normp (Tx.cutAt 63 l).2.1).2 = true ∧ [47].isPrefixOf (normp (Tx.cutAt 63 l).1).1 = true then
    (if query (normp (Tx.cutAt 63 l).2.1).1 = [] then pathd (normp (Tx.cutAt 63 l).1).1 else pathd (normp (Tx.cutAt 63 l).1).1 ++ [63] ++ query (normp (Tx.cutAt 63 l).2.1).1, true)
    else ([], false)) := Lib.hid rfl
  have HER := Lib.hid (fun W (hb : Below w.heap.size w W) => Par.errs_below he hb)
  have HMX := Lib.hid (fun W (hb : Below w.heap.size w W) => Sh.mxl_below hm hb)
  unfold Tx.CutEnd at HC
  unfold PairEnd
  generalize ntar l = res at *
  obtain ⟨r1, r2⟩ := res
  generalize Tx.cutAt 63 l = ct at *
  obtain ⟨p, q, b⟩ := ct
  simp only at *
  have HP := Lib.hid (fun W (hb : Below w.heap.size w W) => codes_call ⟨p.toArray⟩ W (by rw [bs_len]; omega) (HER.out W hb))
  have HQ := Lib.hid (fun W (hb : Below w.heap.size w W) => codes_call ⟨q.toArray⟩ W (by rw [bs_len]; omega) (HER.out W hb))
  have hpl := normp_len p
  have hql := normp_len q
  unfold PairEnd at HP HQ
  rw [show (⟨p.toArray⟩ : ByteArray).data.toList = p from rfl] at HP
  rw [show (⟨q.toArray⟩ : ByteArray).data.toList = q from rfl] at HQ
  generalize normp p = np at *
  generalize normp q = nq at *
  obtain ⟨p1, pb⟩ := np
  obtain ⟨q1, qb⟩ := nq
  simp only at *
  have HHP := Lib.hid (fun W => Tryz.strings_HasPrefix ⟨p1.toArray⟩ ⟨#[47]⟩ W)
  rw [show Lib.hasPrefix (⟨p1.toArray⟩ : ByteArray).data.toList (⟨#[47]⟩ : ByteArray).data.toList = [47].isPrefixOf p1 from rfl] at HHP
  have HPD := Lib.hid (fun W (h : [47].isPrefixOf p1 = true) => dots_call ⟨p1.toArray⟩ W (by rw [bs_len]; exact pre_one h) (by rw [bs_len]; omega))
  have HSO := Lib.hid (fun W (hb : Below w.heap.size w W) => sort_parts ⟨q1.toArray⟩ W (by rw [bs_len]; omega) (HMX.out W hb))
  unfold StrEnd at HPD HSO
  rw [show (⟨p1.toArray⟩ : ByteArray).data.toList = p1 from rfl] at HPD
  rw [show (⟨q1.toArray⟩ : ByteArray).data.toList = q1 from rfl] at HSO
  have hdl := pathd_len p1
  have hul := query_len q1
  generalize pathd p1 = t at *
  generalize query q1 = u at *
  generalize hpre : [47].isPrefixOf p1 = pre at *
  clear hpre he hm
  have HTL : Hid (t.length ≤ 4194300) := Lib.hid (by omega)
  have HUL : Hid (u.length ≤ 4194300) := Lib.hid (by omega)
  clear hc hpl hql hdl hul hl
  cases pb
  case false =>
    have HE : Hid ((r1, r2) = ([], false)) := Lib.hid (by rw [HN.out]; exact if_neg (fun h => Bool.noConfusion h.1))
    clear HN
    go_enter Tryz.func22, Tryz.ntmps22
    go_wp2_with (fail)
    go_at_call 42
    refine HC.out.mono ?_
    rintro e w1 ⟨rfl, hb1⟩
    have HB1 := Lib.hid hb1
    clear hb1
    go_wp2_with (fail)
    go_at_call 43
    refine (HP.out _ HB1.out).mono ?_
    rintro e w2 ⟨rfl, hb2⟩
    have HB2 := Lib.hid (Base.then_below HB1.out hb2)
    clear hb2
    go_wp2_with (fail)
    go_at_call 43
    refine (HQ.out _ HB2.out).mono ?_
    rintro e w3 ⟨rfl, hb3⟩
    have HB3 := Lib.hid (Base.then_below HB2.out hb3)
    clear hb3
    go_wp2
    go_ret2
    exact ⟨ret_qn HE.out.symm, HB3.out⟩
  cases qb
  case false =>
    have HE : Hid ((r1, r2) = ([], false)) := Lib.hid (by rw [HN.out]; exact if_neg (fun h => Bool.noConfusion h.2.1))
    clear HN
    go_enter Tryz.func22, Tryz.ntmps22
    go_wp2_with (fail)
    go_at_call 42
    refine HC.out.mono ?_
    rintro e w1 ⟨rfl, hb1⟩
    have HB1 := Lib.hid hb1
    clear hb1
    go_wp2_with (fail)
    go_at_call 43
    refine (HP.out _ HB1.out).mono ?_
    rintro e w2 ⟨rfl, hb2⟩
    have HB2 := Lib.hid (Base.then_below HB1.out hb2)
    clear hb2
    go_wp2_with (fail)
    go_at_call 43
    refine (HQ.out _ HB2.out).mono ?_
    rintro e w3 ⟨rfl, hb3⟩
    have HB3 := Lib.hid (Base.then_below HB2.out hb3)
    clear hb3
    go_wp2
    go_ret2
    exact ⟨ret_qn HE.out.symm, HB3.out⟩
  cases pre
  case false =>
    have HE : Hid ((r1, r2) = ([], false)) := Lib.hid (by rw [HN.out]; exact if_neg (fun h => Bool.noConfusion h.2.2))
    clear HN
    go_enter Tryz.func22, Tryz.ntmps22
    go_wp2_with (fail)
    go_at_call 42
    refine HC.out.mono ?_
    rintro e w1 ⟨rfl, hb1⟩
    have HB1 := Lib.hid hb1
    clear hb1
    go_wp2_with (fail)
    go_at_call 43
    refine (HP.out _ HB1.out).mono ?_
    rintro e w2 ⟨rfl, hb2⟩
    have HB2 := Lib.hid (Base.then_below HB1.out hb2)
    clear hb2
    go_wp2_with (fail)
    go_at_call 43
    refine (HQ.out _ HB2.out).mono ?_
    rintro e w3 ⟨rfl, hb3⟩
    have HB3 := Lib.hid (Base.then_below HB2.out hb3)
    clear hb3
    go_wp2_with (fail)
    go_at_call 44
    refine (HHP.out _).mono ?_
    rintro e w4 ⟨rfl, rfl⟩
    go_wp2
    go_ret2
    exact ⟨ret_qn HE.out.symm, HB3.out⟩
  have HE : Hid ((r1, r2) = (if u = [] then t else t ++ [63] ++ u, true)) := Lib.hid (by rw [HN.out]; exact if_pos ⟨rfl, rfl, rfl⟩)
  have a1 := Tx.addtwo t [63] (by have := HTL.out; simp only [List.length_cons, List.length_nil]; omega)
  have a2 := Tx.addtwo (t ++ [63]) u (by have := HTL.out; have := HUL.out; simp only [List.length_append, List.length_cons, List.length_nil]; omega)
  clear HN
  by_cases hu : u = []
  · subst hu
    rw [if_pos rfl] at HE
    clear a1 a2
    go_enter Tryz.func22, Tryz.ntmps22
    go_wp2_with (fail)
    go_at_call 42
    refine HC.out.mono ?_
    rintro e w1 ⟨rfl, hb1⟩
    have HB1 := Lib.hid hb1
    clear hb1
    go_wp2_with (fail)
    go_at_call 43
    refine (HP.out _ HB1.out).mono ?_
    rintro e w2 ⟨rfl, hb2⟩
    have HB2 := Lib.hid (Base.then_below HB1.out hb2)
    clear hb2
    go_wp2_with (fail)
    go_at_call 43
    refine (HQ.out _ HB2.out).mono ?_
    rintro e w3 ⟨rfl, hb3⟩
    have HB3 := Lib.hid (Base.then_below HB2.out hb3)
    clear hb3
    go_wp2_with (fail)
    go_at_call 44
    refine (HHP.out _).mono ?_
    rintro e w4 ⟨rfl, rfl⟩
    go_wp2_with (fail)
    go_at_call 45
    refine (HPD.out _ True.intro).mono ?_
    rintro e w5 ⟨rfl, hb5⟩
    have HB5 := Lib.hid (Base.then_below HB3.out hb5)
    clear hb5
    go_wp2_with (fail)
    go_at_call 46
    refine (HSO.out _ HB5.out).mono ?_
    rintro e w6 ⟨rfl, hb6⟩
    have HB6 := Lib.hid (Base.then_below HB5.out hb6)
    clear hb6
    go_wp2
    go_ret2
    exact ⟨ret_qn HE.out.symm, HB6.out⟩
  · rw [if_neg hu] at HE
    have hu1 : (u == []) = false := by simpa using hu
    have hu2 : u.isEmpty = false := by
      cases u with
      | nil => exact absurd rfl hu
      | cons x r => rfl
    clear hu
    generalize t ++ [63] = t1 at *
    generalize t1 ++ u = t2 at *
    go_enter Tryz.func22, Tryz.ntmps22
    go_wp2_with (fail)
    go_at_call 42
    refine HC.out.mono ?_
    rintro e w1 ⟨rfl, hb1⟩
    have HB1 := Lib.hid hb1
    clear hb1
    go_wp2_with (fail)
    go_at_call 43
    refine (HP.out _ HB1.out).mono ?_
    rintro e w2 ⟨rfl, hb2⟩
    have HB2 := Lib.hid (Base.then_below HB1.out hb2)
    clear hb2
    go_wp2_with (fail)
    go_at_call 43
    refine (HQ.out _ HB2.out).mono ?_
    rintro e w3 ⟨rfl, hb3⟩
    have HB3 := Lib.hid (Base.then_below HB2.out hb3)
    clear hb3
    go_wp2_with (fail)
    go_at_call 44
    refine (HHP.out _).mono ?_
    rintro e w4 ⟨rfl, rfl⟩
    go_wp2_with (fail)
    go_at_call 45
    refine (HPD.out _ True.intro).mono ?_
    rintro e w5 ⟨rfl, hb5⟩
    have HB5 := Lib.hid (Base.then_below HB3.out hb5)
    clear hb5
    go_wp2_with (fail)
    go_at_call 46
    refine (HSO.out _ HB5.out).mono ?_
    rintro e w6 ⟨rfl, hb6⟩
    have HB6 := Lib.hid (Base.then_below HB5.out hb6)
    clear hb6
    go_wp2
    go_ret2
    exact ⟨ret_qn HE.out.symm, HB6.out⟩
end Go.Proofs.YtkedndamkjnmkaaGreatDoor.Nt
