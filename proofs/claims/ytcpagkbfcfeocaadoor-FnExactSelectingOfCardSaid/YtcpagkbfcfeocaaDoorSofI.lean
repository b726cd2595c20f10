/-
  CONTRACT of the program's SelectingOf; nothing that was there before is changed.
-/
import Derived.Test.YtcpagkbfcfeocaaDoorSof
namespace Go.Proofs.YtcpagkbfcfeocaaDoor.Sel
open Go Go.RowKit
set_option linter.unusedVariables false

def BoxQ (m ho t : List UInt8) (v : Value) (b : Nat) (u : World) : Prop := u.cell? ⟨b, 0, none⟩ = some (.string ⟨m.toArray⟩) ∧ u.cell? ⟨b, 1, none⟩ = some (.string ⟨ho.toArray⟩) ∧ u.cell? ⟨b, 2, none⟩ = some (.string ⟨t.toArray⟩) ∧ u.cell? ⟨b, 3, none⟩ = some v
theorem boxq_below {m ho t : List UInt8} {v : Value} {b : Nat} {u u' : World} (h : BoxQ m ho t v b u) (hb : Below u.heap.size u u') : BoxQ m ho t v b u' :=
  ⟨(hb.cell (p := ⟨b, 0, none⟩) (Rec.lt_of_cell h.1)).trans h.1, (hb.cell (p := ⟨b, 1, none⟩) (Rec.lt_of_cell h.2.1)).trans h.2.1, (hb.cell (p := ⟨b, 2, none⟩) (Rec.lt_of_cell h.2.2.1)).trans h.2.2.1, (hb.cell (p := ⟨b, 3, none⟩) (Rec.lt_of_cell h.2.2.2)).trans h.2.2.2⟩
theorem boxq_grown {m ho t : List UInt8} {v : Value} {b : Nat} {u u' : World} {row : Option Nat} (h : BoxQ m ho t v b u) (hg : u.grownBy u' row) (hr : some b ≠ row) : BoxQ m ho t v b u' :=
  ⟨hg.cell h.1 hr, hg.cell h.2.1 hr, hg.cell h.2.2.1 hr, hg.cell h.2.2.2 hr⟩

set_option maxHeartbeats 4000000 in
set_option maxRecDepth 100000 in
theorem impl_sof (m ho t : List UInt8) (v : Value) (B : Nat) (l : List Flds.Fld) (v2 : Value) (B2 : Nat) (ns : List (List UInt8)) (w : World) (h : Flds.Holds w B v l) (hB : B ≤ w.heap.size) (hl : Flds.total l ≤ 1048576)
    (h2 : Strs.Holds w B2 v2 ns) (hB2 : B2 ≤ w.heap.size) (hn : ns.length ≤ 1048576) :
    Calls Tryd.prog 21 #[.agg #[.string ⟨m.toArray⟩, .string ⟨ho.toArray⟩, .string ⟨t.toArray⟩, v], v2] w (SofEnd (sof l ns) w) := by
  obtain ⟨i0, hi, hz0, hz1, hz2⟩ := info_parts Flds.info_fld
  obtain ⟨a, cap, rfl, hat0⟩ := str_shape h2
  have HAT := Lib.hid hat0
  have HBA : Hid (Below w.heap.size w (w.alloc (.cells #[.string ⟨m.toArray⟩, .string ⟨ho.toArray⟩, .string ⟨t.toArray⟩, v] 39))) := Lib.hid ((Below.refl _ _).alloc (Nat.le_refl _) _)
  have hbb : Below (w.alloc (.cells #[.string ⟨m.toArray⟩, .string ⟨ho.toArray⟩, .string ⟨t.toArray⟩, v] 39)).heap.size (w.alloc (.cells #[.string ⟨m.toArray⟩, .string ⟨ho.toArray⟩, .string ⟨t.toArray⟩, v] 39)) ((w.alloc (.cells #[.string ⟨m.toArray⟩, .string ⟨ho.toArray⟩, .string ⟨t.toArray⟩, v] 39)).alloc (.cells #[] 55)) := (Below.refl _ _).alloc (Nat.le_refl _) _
  have HO1 : Hid (Flds.Own ((w.alloc (.cells #[.string ⟨m.toArray⟩, .string ⟨ho.toArray⟩, .string ⟨t.toArray⟩, v] 39)).alloc (.cells #[] 55)) (w.heap.size + 1) (.slice (some ⟨w.heap.size + 1, 0, none⟩) 0 0) []) := Lib.hid (by have h9 := Flds.own_lit_nil (w.alloc (.cells #[.string ⟨m.toArray⟩, .string ⟨ho.toArray⟩, .string ⟨t.toArray⟩, v] 39)); rw [World.size_alloc] at h9; exact h9)
  have HX2 : Hid (BoxQ m ho t v w.heap.size ((w.alloc (.cells #[.string ⟨m.toArray⟩, .string ⟨ho.toArray⟩, .string ⟨t.toArray⟩, v] 39)).alloc (.cells #[] 55))) := Lib.hid (boxq_below ⟨by rw [World.cell?_alloc_new]; rfl, by rw [World.cell?_alloc_new]; rfl, by rw [World.cell?_alloc_new]; rfl, by rw [World.cell?_alloc_new]; rfl⟩ hbb)
  have HB2 := Lib.hid (HBA.out.trans (hbb.mono (by simp)))
  have HV := Lib.hid (fun n W (hb : Below w.heap.size w W) => impl_selv m ho t v B l n W (Flds.holds_below h (hb.mono hB)) (Nat.le_trans hB hb.size) hl)
  have HSM := Lib.hid (fun k (h : k < ns.length) => sof_more (l := l) h)
  have HALL : Hid (sof l (ns.take ns.length) = sof l ns) := Lib.hid (by rw [List.take_length])
  have HLN := Lib.hid (fun k => sof_len l (ns.take k))
  unfold TxtEnd at HV
  clear h h2 hl hbb HBA hat0
  unfold SofEnd
  go_enter Tryd.func21, Tryd.ntmps21
  go_wp2
  go_loopw [5, 7, 11] (fun u _ i wr => ∃ (k : Nat) (r : List Flds.Fld), k ≤ ns.length ∧ i = .int .i64 k ∧ Hid (r = sof l (ns.take k)) ∧ wr.ownsRow (w.heap.size + 1) 55 2 u r.length (Flds.fcs r) ∧ Hid (BoxQ m ho t v w.heap.size wr) ∧ Hid (Below w.heap.size w wr)) (fun _ _ i _ => ns.length - (intOf i).toNat)
  case atStart => exact ⟨0, [], Nat.zero_le _, rfl, Lib.hid (by simp [sof]), HO1.out, HX2, HB2⟩
  case round =>
    clear HO1 HX2 HB2
    obtain ⟨k, r, hk, rfl, HR, hown, HQ, HB⟩ := hrel
    have HO : Hid (Flds.Own wr (w.heap.size + 1) u5 r) := Lib.hid hown
    have HRL : Hid (r.length = k) := Lib.hid (by rw [HR.out, HLN.out, List.length_take]; omega)
    clear hown
    by_cases hlt : k < ns.length
    · obtain ⟨b, off, rfl, hbB, hc⟩ := HAT.out (by omega)
      have c0 := Strs.at_below hc HB.out (Nat.lt_of_lt_of_le hbB hB2) k hlt
      have HM := Lib.hid (HSM.out k hlt)
      rw [← HR.out] at HM
      unfold Strs.sv at c0
      generalize ns.getD k [] = x at c0 HM
      have HVx := Lib.hid (HV.out x wr HB.out)
      clear HV HSM HALL HLN hc HAT HR
      generalize selv x l = s at HVx HM
      obtain ⟨q0, q1, q2, q3⟩ := HQ.out
      have hki : (k : Int) < (ns.length : Int) := by omega
      go_wp2_with (fail)
      go_at_call 41
      refine HVx.out.mono ?_
      rintro e w1 ⟨rfl, hb1⟩
      have hown := Flds.own_below HO.out hb1
      have HB1 := Lib.hid (Base.then_below HB.out hb1)
      have HQ1 := Lib.hid (boxq_below HQ.out hb1)
      have hz1' := hb1.size
      have hwz : w.heap.size < wr.heap.size := Rec.lt_of_cell q0
      have hL := Flds.fcs_len r
      clear hb1 q0 q1 q2 q3 HQ HB c0 HVx HO
      go_wp2_with (at_builtin; refine wpList_append_own _ rfl (.tmp 15) (.tmp 21) 27 rfl (w.heap.size + 1) 55 i0 (.agg #[.string ⟨#[]⟩, .string ⟨#[]⟩]) 2 32 Tryd.underlying27 hi hz0 hz1 hz2 rfl (by decide) _ _ _ rfl (World.ownsRow.alloc hown _) ⟨w1.heap.size, 0, none⟩ 1 1 [.string ⟨x.toArray⟩, .string ⟨s.toArray⟩] rfl rfl (Flds.news_two _ _ _ _) (Flds.two_one (x, s)) (by have := HRL.out; unfold maxLen; omega) (by have := HRL.out; omega) (by first | omega | (simp; omega) | simp) ?_; intro v1 w2 hown1 hg2 _)
      have R := Lib.hid (Flds.push_own (f := (x, s)) hown HB1.out (Nat.le_succ _) hown1 hg2)
      have HQ2 := Lib.hid (boxq_grown (boxq_below HQ1.out ((Below.refl _ _).alloc (Nat.le_refl _) _)) hg2 (fun e => Nat.not_succ_le_self _ (hown.lt _ e.symm).1))
      clear hown hown1 hg2
      go_wp2
      go_roundw
      case rel => exact ⟨k + 1, r ++ [(x, s)], by omega, by go_num, Lib.hid HM.out.symm, R.out.1, HQ2, Lib.hid R.out.2⟩
      case measure => simp [intOf]; omega
    · have HE : Hid (r = sof l ns) := Lib.hid (by rw [HR.out, show k = ns.length by omega, HALL.out])
      have hke : ¬ (k : Int) < (ns.length : Int) := by omega
      go_wp2
      go_ret
      exact ⟨_, rfl, by rw [← HE.out]; exact Flds.own_mono HO.out (Nat.le_succ _), HB.out⟩
end Go.Proofs.YtcpagkbfcfeocaaDoor.Sel
