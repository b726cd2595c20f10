/-
  CONTRACTS AND PLAIN FACTS, several texts in one; each says in its own words what it proves.
-/
import Derived.Test.YtegaakgmfphcaaaGreatDoorSelA
import Derived.Test.YtegaakgmfphcaaaGreatDoorSelG
import Derived.Test.YtegaakgmfphcaaaGreatDoorSelE
import Derived.Test.YtegaakgmfphcaaaGreatDoorSelD
import Derived.Test.YtegaakgmfphcaaaGreatDoorSelC
import Derived.Deep.RegionHeldLaw
import Derived.Deep.AppendLies
import Derived.Maps.OwnSet
import Derived.Maps.OwnOps
import Derived.Maps.Views
set_option linter.unusedSimpArgs false
set_option linter.unusedVariables false

/-
  PLAIN FACTS: blocks that a call has just laid, one, two or three, read on as they were laid behind whatever only adds.
-/
namespace Go.Proofs.YtegaakgmfphcaaaGreatDoor.Kept
open Go Go.RowKit
set_option linter.unusedVariables false
set_option maxRecDepth 1000000

theorem below_in {w w1 : World} {o : Obj} (h : Below (w.alloc o).heap.size (w.alloc o) w1) : Below w.heap.size w w1 := ((Below.refl _ _).alloc (Nat.le_refl _) _).trans (h.mono (by simp))
theorem one {w w1 : World} {T : TypeId} {a : Array Value} (hb : Below (w.alloc (.cells a T)).heap.size (w.alloc (.cells a T)) w1) :
    (∀ j u, a[j]? = some u → w1.cell? ⟨w.heap.size, j, none⟩ = some u) ∧ ∀ j, w1.frozen? ⟨w.heap.size, j, none⟩ = false := by
  refine ⟨fun j u h => ?_, fun j => ?_⟩
  · rw [hb.cell (p := ⟨w.heap.size, j, none⟩) (by simp), World.cell?_alloc_new]; exact h
  · rw [hb.frozen (p := ⟨w.heap.size, j, none⟩) (by simp)]; simp [go_sem]
theorem two {w w1 : World} {o : Obj} {T : TypeId} {a : Array Value} (hb : Below ((w.alloc o).alloc (.cells a T)).heap.size ((w.alloc o).alloc (.cells a T)) w1) :
    (∀ j u, a[j]? = some u → w1.cell? ⟨w.heap.size + 1, j, none⟩ = some u) ∧ ∀ j, w1.frozen? ⟨w.heap.size + 1, j, none⟩ = false := by
  have h := one hb
  rw [show (w.alloc o).heap.size = w.heap.size + 1 by simp] at h
  exact h
theorem three {w w1 : World} {o o2 : Obj} {T : TypeId} {a : Array Value} (hb : Below (((w.alloc o).alloc o2).alloc (.cells a T)).heap.size (((w.alloc o).alloc o2).alloc (.cells a T)) w1) :
    (∀ j u, a[j]? = some u → w1.cell? ⟨w.heap.size + 1 + 1, j, none⟩ = some u) ∧ ∀ j, w1.frozen? ⟨w.heap.size + 1 + 1, j, none⟩ = false := by
  have h := one hb
  rw [show ((w.alloc o).alloc o2).heap.size = w.heap.size + 1 + 1 by simp] at h
  exact h
end Go.Proofs.YtegaakgmfphcaaaGreatDoor.Kept

/-
  CONTRACTS of how a selecting field is read (the program's selectingValue) and of both sides' VisitorOf; nothing that was there before is changed.
-/
namespace Go.Proofs.YtegaakgmfphcaaaGreatDoor.Sel
open Go Go.RowKit
set_option linter.unusedVariables false
set_option maxRecDepth 1000000

/-- The value of a selecting field. -/
def selv (n : List UInt8) (l : List Flds.Fld) : List UInt8 := Tx.join (Tx.split (Flds.got n l))
def TxtEnd (t : List UInt8) (w : World) (e : Ending) (w' : World) : Prop := e = .returned (.string ⟨t.toArray⟩) ∧ Below w.heap.size w w'
theorem push_sum (p : List UInt8) (L : List (List UInt8)) : ((Tx.push p L).map (·.length)).sum ≤ p.length + (L.map (·.length)).sum := by
  cases L with
  | nil => simp [Tx.push]
  | cons a r => simp [Tx.push]; omega
theorem cuts_sum : ∀ n q (l : List UInt8), l.length ≤ n → ((Tx.cuts q l).map (·.length)).sum ≤ l.length := by
  intro n
  induction n with
  | zero => intro q l hl; rw [List.length_eq_zero_iff.1 (by omega : l.length = 0), Tx.cuts_nil]; simp
  | succ n ih =>
    intro q l hl
    cases l with
    | nil => rw [Tx.cuts_nil]; simp
    | cons c r =>
      simp at hl
      rw [Tx.cuts_cons]
      split
      · have h1 := push_sum (c :: r.take 1) (Tx.cuts true (r.drop 1))
        have h2 := ih true (r.drop 1) (by simp; omega)
        have h3 : (r.take 1).length + (r.drop 1).length = r.length := by simp; omega
        rw [List.length_cons] at h1 ⊢; omega
      · split
        · have h1 := push_sum [c] (Tx.cuts (!q) r); have h2 := ih (!q) r hl; rw [List.length_cons] at h1 ⊢; rw [List.length_nil] at h1; omega
        · split
          · have h2 := ih false r hl; rw [List.map_cons, List.sum_cons, List.length_nil, List.length_cons]; omega
          · have h1 := push_sum [c] (Tx.cuts q r); have h2 := ih q r hl; rw [List.length_cons] at h1 ⊢; rw [List.length_nil] at h1; omega
theorem keep_sum : ∀ L : List (List UInt8), ((Tx.keep L).map (·.length)).sum ≤ (L.map (·.length)).sum
  | [] => by simp [Tx.keep]
  | x :: r => by
    have h := keep_sum r
    have e : Tx.keep (x :: r) = Tx.keep [x] ++ Tx.keep r := Tx.keep_append [x] r
    have h2 := Tx.trim_short x
    rw [e, Tx.keep_one, List.map_append, List.sum_append, List.map_cons, List.sum_cons]
    split
    · simp; omega
    · simp; omega
theorem split_total (l : List UInt8) : Strs.total (Tx.split l) ≤ 2 * l.length + 1 := by
  have h1 := keep_sum (Tx.cuts false l)
  have h2 := cuts_sum _ false l (Nat.le_refl _)
  have h3 := Tx.split_count l
  unfold Strs.total
  unfold Tx.split at h3 ⊢
  omega
theorem selv_len (n : List UInt8) (l : List Flds.Fld) : (selv n l).length ≤ 20 * Flds.total l + 20 := by
  have h1 := Tx.join_len (Tx.split (Flds.got n l)) (Tx.split (Flds.got n l)).length (Nat.le_refl _)
  rw [List.take_length] at h1
  have h2 := Tx.pre_le (Tx.split (Flds.got n l)) (Tx.split (Flds.got n l)).length
  have h3 := split_total (Flds.got n l)
  have h4 := Flds.got_len n l
  unfold Strs.total at h3
  unfold selv
  omega
theorem big (n : List UInt8) {l : List Flds.Fld} (hl : Flds.total l ≤ 1048576) : (⟨(Flds.got n l).toArray⟩ : ByteArray).size ≤ 4194304 ∧ Strs.total (Tx.split (Flds.got n l)) ≤ 67108864 := by
  have h4 := Flds.got_len n l
  have h3 := split_total (Flds.got n l)
  refine ⟨by simp [ByteArray.size]; omega, by omega⟩

set_option maxHeartbeats 1000000 in
theorem impl_selv (m ho t : List UInt8) (v : Value) (B : Nat) (l : List Flds.Fld) (n : List UInt8) (w : World) (h : Flds.Holds w B v l) (hB : B ≤ w.heap.size) (hl : Flds.total l ≤ 1048576) :
    Calls Tryz.prog 25 #[.agg #[.string ⟨m.toArray⟩, .string ⟨ho.toArray⟩, .string ⟨t.toArray⟩, v], .string ⟨n.toArray⟩] w (TxtEnd (selv n l) w) := by
  have HB0 : Hid (Below w.heap.size w (w.alloc (.cells #[.string ⟨m.toArray⟩, .string ⟨ho.toArray⟩, .string ⟨t.toArray⟩, v] 26))) := Lib.hid ((Below.refl _ _).alloc (Nat.le_refl _) _)
  have HG := Lib.hid (Flds.impl_get v B l n _ (Flds.holds_below h (HB0.out.mono hB)) (Nat.le_trans hB HB0.out.size) hl)
  obtain ⟨b1, b2⟩ := big n hl
  have HSP := Lib.hid (fun W => Tx.impl_split ⟨(Flds.got n l).toArray⟩ W b1)
  have HJ := Lib.hid (fun u B W (h : Strs.Holds W B u (Tx.split (Flds.got n l))) => Tx.impl_join u B _ W h b2)
  unfold Flds.GetEnd at HG
  unfold Tx.SplitEnd at HSP
  unfold Tx.JoinEnd at HJ
  have hj : Tx.join (Flds.vals n l) = Flds.got n l := rfl
  rw [hj] at HG
  unfold TxtEnd selv
  clear h hl hj b1 b2
  generalize Flds.got n l = g at HG HSP HJ ⊢
  generalize decide (0 < (Flds.vals n l).length) = q at HG
  have he : (⟨g.toArray⟩ : ByteArray).data.toList = g := by simp
  rw [he] at HSP
  clear he
  generalize Tx.split g = xs at HSP HJ ⊢
  generalize Tx.join xs = r at HJ ⊢
  go_enter Tryz.func25, Tryz.ntmps25
  go_wp2_with (fail)
  go_at_call 10
  refine HG.out.mono ?_
  rintro e w1 ⟨rfl, hb1⟩
  have HB1 := Lib.hid (HB0.out.trans (hb1.mono HB0.out.size))
  clear hb1
  go_wp2_with (fail)
  go_at_call 26
  refine (HSP.out _).mono ?_
  rintro e w2 ⟨u, rfl, ho2, hb2⟩
  have HB2 := Lib.hid (Base.then_below HB1.out hb2)
  have HO := Lib.hid (HJ.out u _ _ (Strs.own_holds ho2))
  clear hb2 ho2
  go_wp2_with (fail)
  go_at_call 31
  refine HO.out.mono ?_
  rintro e w3 ⟨rfl, hb3⟩
  have HB3 := Lib.hid (Base.then_below HB2.out hb3)
  clear hb3
  go_wp2
  go_ret
  exact ⟨rfl, HB3.out⟩
end Go.Proofs.YtegaakgmfphcaaaGreatDoor.Sel

/-
  CONTRACT of the model's SelectingOf; nothing that was there before is changed.
-/
namespace Go.Proofs.YtegaakgmfphcaaaGreatDoor.Sel
open Go Go.RowKit
set_option linter.unusedVariables false
set_option maxRecDepth 1000000

/-- The selecting fields of the request's fields l for the names ns. -/
def sof (l : List Flds.Fld) (ns : List (List UInt8)) : List Flds.Fld := ns.map (fun n => (n, selv n l))
theorem sof_len (l : List Flds.Fld) (ns : List (List UInt8)) : (sof l ns).length = ns.length := by unfold sof; simp
theorem sof_more {l : List Flds.Fld} {ns : List (List UInt8)} {k : Nat} (h : k < ns.length) : sof l (ns.take (k + 1)) = sof l (ns.take k) ++ [(ns.getD k [], selv (ns.getD k []) l)] := by
  unfold sof; rw [List.take_succ_eq_append_getElem h, List.map_append]; simp [List.getD, h]
def SofEnd (m : List Flds.Fld) (w : World) (e : Ending) (w' : World) : Prop := ∃ z, e = .returned z ∧ Flds.Own w' w.heap.size z m ∧ Below w.heap.size w w'
theorem str_shape {w : World} {B : Nat} {v : Value} {ns : List (List UInt8)} (h : Strs.Holds w B v ns) : ∃ a cap, v = .slice a ns.length cap ∧ (0 < ns.length → ∃ b off, a = some ⟨b, off, none⟩ ∧ b < B ∧ Strs.At w b off ns) := by
  rcases h with ⟨rfl, a, cap, rfl⟩ | ⟨h0, b, off, cap, rfl, hb, _, hc⟩
  · exact ⟨a, cap, rfl, fun h => by simp at h⟩
  · exact ⟨_, cap, rfl, fun _ => ⟨b, off, rfl, hb, hc⟩⟩

end Go.Proofs.YtegaakgmfphcaaaGreatDoor.Sel

/-
  CONTRACT of the program's SelectingOf; nothing that was there before is changed.
-/
namespace Go.Proofs.YtegaakgmfphcaaaGreatDoor.Sel
open Go Go.RowKit
set_option linter.unusedVariables false
set_option maxRecDepth 1000000

def BoxQ (m ho t : List UInt8) (v : Value) (b : Nat) (u : World) : Prop := u.cell? ⟨b, 0, none⟩ = some (.string ⟨m.toArray⟩) ∧ u.cell? ⟨b, 1, none⟩ = some (.string ⟨ho.toArray⟩) ∧ u.cell? ⟨b, 2, none⟩ = some (.string ⟨t.toArray⟩) ∧ u.cell? ⟨b, 3, none⟩ = some v
theorem boxq_below {m ho t : List UInt8} {v : Value} {b : Nat} {u u' : World} (h : BoxQ m ho t v b u) (hb : Below u.heap.size u u') : BoxQ m ho t v b u' :=
  ⟨(hb.cell (p := ⟨b, 0, none⟩) (Rec.lt_of_cell h.1)).trans h.1, (hb.cell (p := ⟨b, 1, none⟩) (Rec.lt_of_cell h.2.1)).trans h.2.1, (hb.cell (p := ⟨b, 2, none⟩) (Rec.lt_of_cell h.2.2.1)).trans h.2.2.1, (hb.cell (p := ⟨b, 3, none⟩) (Rec.lt_of_cell h.2.2.2)).trans h.2.2.2⟩
theorem boxq_grown {m ho t : List UInt8} {v : Value} {b : Nat} {u u' : World} {row : Option Nat} (h : BoxQ m ho t v b u) (hg : u.grownBy u' row) (hr : some b ≠ row) : BoxQ m ho t v b u' :=
  ⟨hg.cell h.1 hr, hg.cell h.2.1 hr, hg.cell h.2.2.1 hr, hg.cell h.2.2.2 hr⟩

set_option maxHeartbeats 4000000 in
set_option maxRecDepth 1000000 in
theorem impl_sof (m ho t : List UInt8) (v : Value) (B : Nat) (l : List Flds.Fld) (v2 : Value) (B2 : Nat) (ns : List (List UInt8)) (w : World) (h : Flds.Holds w B v l) (hB : B ≤ w.heap.size) (hl : Flds.total l ≤ 1048576)
    (h2 : Strs.Holds w B2 v2 ns) (hB2 : B2 ≤ w.heap.size) (hn : ns.length ≤ 1048576) :
    Calls Tryz.prog 7 #[.agg #[.string ⟨m.toArray⟩, .string ⟨ho.toArray⟩, .string ⟨t.toArray⟩, v], v2] w (SofEnd (sof l ns) w) := by
  obtain ⟨i0, hi, hz0, hz1, hz2⟩ := info_parts Flds.info_fld
  obtain ⟨a, cap, rfl, hat0⟩ := str_shape h2
  have HAT := Lib.hid hat0
  have HBA : Hid (Below w.heap.size w (w.alloc (.cells #[.string ⟨m.toArray⟩, .string ⟨ho.toArray⟩, .string ⟨t.toArray⟩, v] 26))) := Lib.hid ((Below.refl _ _).alloc (Nat.le_refl _) _)
  have hbb : Below (w.alloc (.cells #[.string ⟨m.toArray⟩, .string ⟨ho.toArray⟩, .string ⟨t.toArray⟩, v] 26)).heap.size (w.alloc (.cells #[.string ⟨m.toArray⟩, .string ⟨ho.toArray⟩, .string ⟨t.toArray⟩, v] 26)) ((w.alloc (.cells #[.string ⟨m.toArray⟩, .string ⟨ho.toArray⟩, .string ⟨t.toArray⟩, v] 26)).alloc (.cells #[] 39)) := (Below.refl _ _).alloc (Nat.le_refl _) _
  have HO1 : Hid (Flds.Own ((w.alloc (.cells #[.string ⟨m.toArray⟩, .string ⟨ho.toArray⟩, .string ⟨t.toArray⟩, v] 26)).alloc (.cells #[] 39)) (w.heap.size + 1) (.slice (some ⟨w.heap.size + 1, 0, none⟩) 0 0) []) := Lib.hid (by have h9 := Flds.own_lit_nil (w.alloc (.cells #[.string ⟨m.toArray⟩, .string ⟨ho.toArray⟩, .string ⟨t.toArray⟩, v] 26)); rw [World.size_alloc] at h9; exact h9)
  have HX2 : Hid (BoxQ m ho t v w.heap.size ((w.alloc (.cells #[.string ⟨m.toArray⟩, .string ⟨ho.toArray⟩, .string ⟨t.toArray⟩, v] 26)).alloc (.cells #[] 39))) := Lib.hid (boxq_below ⟨by rw [World.cell?_alloc_new]; rfl, by rw [World.cell?_alloc_new]; rfl, by rw [World.cell?_alloc_new]; rfl, by rw [World.cell?_alloc_new]; rfl⟩ hbb)
  have HB2 := Lib.hid (HBA.out.trans (hbb.mono (by simp)))
  have HV := Lib.hid (fun n W (hb : Below w.heap.size w W) => impl_selv m ho t v B l n W (Flds.holds_below h (hb.mono hB)) (Nat.le_trans hB hb.size) hl)
  have HSM := Lib.hid (fun k (h : k < ns.length) => sof_more (l := l) h)
  have HALL : Hid (sof l (ns.take ns.length) = sof l ns) := Lib.hid (by rw [List.take_length])
  have HLN := Lib.hid (fun k => sof_len l (ns.take k))
  unfold TxtEnd at HV
  clear h h2 hl hbb HBA hat0
  unfold SofEnd
  go_enter Tryz.func7, Tryz.ntmps7
  go_wp2
  go_loopw [5, 7, 11] (fun u _ i wr => ∃ (k : Nat) (r : List Flds.Fld), k ≤ ns.length ∧ i = .int .i64 k ∧ Hid (r = sof l (ns.take k)) ∧ wr.ownsRow (w.heap.size + 1) 39 2 u r.length (Flds.fcs r) ∧ Hid (BoxQ m ho t v w.heap.size wr) ∧ Hid (Below w.heap.size w wr)) (fun _ _ i _ => ns.length - (intOf i).toNat)
  case atStart => exact ⟨0, [], Nat.zero_le _, rfl, Lib.hid (by simp [sof]), HO1.out, HX2, HB2⟩
  case round =>
    clear HO1 HX2 HB2
    obtain ⟨k, r, hk, rfl, HR, hown, HQ, HB⟩ := hrel
    have HO : Hid (Flds.Own wr (w.heap.size + 1) u5 r) := Lib.hid hown
    have HRL : Hid (r.length = k) := Lib.hid (by rw [HR.out, HLN.out, List.length_take]; omega)
    clear hown
    by_cases hlt : k < ns.length
    · obtain ⟨b, off, rfl, hbB, hc⟩ := HAT.out (by omega)
      have c0 := Strs.at_below hc HB.out (Nat.lt_of_lt_of_le hbB hB2) k hlt
      have HM := Lib.hid (HSM.out k hlt)
      rw [← HR.out] at HM
      unfold Strs.sv at c0
      generalize ns.getD k [] = x at c0 HM
      have HVx := Lib.hid (HV.out x wr HB.out)
      clear HV HSM HALL HLN hc HAT HR
      generalize selv x l = s at HVx HM
      obtain ⟨q0, q1, q2, q3⟩ := HQ.out
      have hki : (k : Int) < (ns.length : Int) := by omega
      go_wp2_with (fail)
      go_at_call 25
      refine HVx.out.mono ?_
      rintro e w1 ⟨rfl, hb1⟩
      have hown := Flds.own_below HO.out hb1
      have HB1 := Lib.hid (Base.then_below HB.out hb1)
      have HQ1 := Lib.hid (boxq_below HQ.out hb1)
      have hz1' := hb1.size
      have hwz : w.heap.size < wr.heap.size := Rec.lt_of_cell q0
      have hL := Flds.fcs_len r
      clear hb1 q0 q1 q2 q3 HQ HB c0 HVx HO
      go_wp2_with (at_builtin; refine wpList_append_own _ rfl (.tmp 15) (.tmp 21) 24 rfl (w.heap.size + 1) 39 i0 (.agg #[.string ⟨#[]⟩, .string ⟨#[]⟩]) 2 32 Tryz.underlying24 hi hz0 hz1 hz2 rfl (by decide) _ _ _ rfl (World.ownsRow.alloc hown _) ⟨w1.heap.size, 0, none⟩ 1 1 [.string ⟨x.toArray⟩, .string ⟨s.toArray⟩] rfl rfl (Flds.news_two _ _ _ _) (Flds.two_one (x, s)) (by have := HRL.out; unfold maxLen; omega) (by have := HRL.out; omega) (by first | omega | (simp; omega) | simp) ?_; intro v1 w2 hown1 hg2 _)
      have R := Lib.hid (Flds.push_own (f := (x, s)) hown HB1.out (Nat.le_succ _) hown1 hg2)
      have HQ2 := Lib.hid (boxq_grown (boxq_below HQ1.out ((Below.refl _ _).alloc (Nat.le_refl _) _)) hg2 (fun e => Nat.not_succ_le_self _ (hown.lt _ e.symm).1))
      clear hown hown1 hg2
      go_wp2
      go_roundw
      case rel => exact ⟨k + 1, r ++ [(x, s)], by omega, by go_num, Lib.hid HM.out.symm, R.out.1, HQ2, Lib.hid R.out.2⟩
      case measure => simp [intOf]; omega
    · have HE : Hid (r = sof l ns) := Lib.hid (by rw [HR.out, show k = ns.length by omega, HALL.out])
      have hke : ¬ (k : Int) < (ns.length : Int) := by omega
      go_wp2
      go_ret
      exact ⟨_, rfl, by rw [← HE.out]; exact Flds.own_mono HO.out (Nat.le_succ _), HB.out⟩
end Go.Proofs.YtegaakgmfphcaaaGreatDoor.Sel

/-
  CONTRACTS of both sides' Agrees; nothing that was there before is changed.
-/
namespace Go.Proofs.YtegaakgmfphcaaaGreatDoor.Sel
open Go Go.RowKit
set_option linter.unusedVariables false
set_option maxRecDepth 1000000
def BoolEnd (b : Bool) (w : World) (e : Ending) (w' : World) : Prop := e = .returned (.bool b) ∧ Below w.heap.size w w'
theorem ret_b {a b : Bool} (h : a = b) : Ending.returned (.bool a) = .returned (.bool b) := by rw [h]
/-- Each of the fields z is the selecting field of the request's fields l. -/
def agr (l z : List Flds.Fld) : Bool := z.all (fun f => selv f.1 l == f.2)
theorem agr_no {l z : List Flds.Fld} {k : Nat} (h : k < z.length) (e : (selv (z.getD k Flds.nofld).1 l == (z.getD k Flds.nofld).2) = false) : agr l z = false := by
  have hg : z.getD k Flds.nofld = z[k] := by simp [List.getD, h]
  rw [hg] at e
  unfold agr
  rw [List.all_eq_false]
  exact ⟨z[k], List.getElem_mem h, by simpa using e⟩
theorem agr_all {l z : List Flds.Fld} (h : ∀ k, k < z.length → (selv (z.getD k Flds.nofld).1 l == (z.getD k Flds.nofld).2) = true) : agr l z = true := by
  unfold agr
  rw [List.all_eq_true]
  intro x hx
  obtain ⟨k, hk, rfl⟩ := List.getElem_of_mem hx
  have := h k hk
  have hg : z.getD k Flds.nofld = z[k] := by simp [List.getD, hk]
  rw [hg] at this; exact this

end Go.Proofs.YtegaakgmfphcaaaGreatDoor.Sel

/-
  CONTRACT of the program's Agrees; nothing that was there before is changed.
-/
namespace Go.Proofs.YtegaakgmfphcaaaGreatDoor.Sel
open Go Go.RowKit
set_option linter.unusedVariables false
set_option maxRecDepth 1000000
/-- The request's box. -/
def Bx (w : World) (m ho t : List UInt8) (v : Value) (u : World) : Prop := (u.cell? ⟨w.heap.size, 0, none⟩ = some (.string ⟨m.toArray⟩) ∧ u.cell? ⟨w.heap.size, 1, none⟩ = some (.string ⟨ho.toArray⟩) ∧ u.cell? ⟨w.heap.size, 2, none⟩ = some (.string ⟨t.toArray⟩) ∧ u.cell? ⟨w.heap.size, 3, none⟩ = some v) ∧ Below w.heap.size w u
theorem bx_start (w : World) (m ho t : List UInt8) (v : Value) (T : TypeId) : Bx w m ho t v (w.alloc (.cells #[.string ⟨m.toArray⟩, .string ⟨ho.toArray⟩, .string ⟨t.toArray⟩, v] T)) := by
  refine ⟨⟨?_, ?_, ?_, ?_⟩, (Below.refl _ _).alloc (Nat.le_refl _) _⟩
  all_goals (rw [World.cell?_alloc_new]; rfl)
theorem bx_below {w u u' : World} {m ho t : List UInt8} {v : Value} (h : Bx w m ho t v u) (hb : Below u.heap.size u u') : Bx w m ho t v u' := by
  obtain ⟨⟨a0, a1, a2, a3⟩, hB⟩ := h
  have hl := Rec.lt_of_cell a0
  exact ⟨⟨(hb.cell (p := ⟨w.heap.size, 0, none⟩) hl).trans a0, (hb.cell (p := ⟨w.heap.size, 1, none⟩) hl).trans a1, (hb.cell (p := ⟨w.heap.size, 2, none⟩) hl).trans a2, (hb.cell (p := ⟨w.heap.size, 3, none⟩) hl).trans a3⟩, Base.then_below hB hb⟩

theorem impl_agr_nil (m ho t : List UInt8) (v : Value) (l : List Flds.Fld) (a : Option Addr) (cap : Nat) (w : World) :
    Calls Tryz.prog 11 #[.agg #[.string ⟨m.toArray⟩, .string ⟨ho.toArray⟩, .string ⟨t.toArray⟩, v], .slice a 0 cap] w (BoolEnd true w) := by
  have HB0 : Hid (Below w.heap.size w (w.alloc (.cells #[.string ⟨m.toArray⟩, .string ⟨ho.toArray⟩, .string ⟨t.toArray⟩, v] 26))) := Lib.hid ((Below.refl _ _).alloc (Nat.le_refl _) _)
  go_enter Tryz.func11, Tryz.ntmps11
  go_wp2
  go_loop [9] (fun i => i = .int .i64 0) (fun i => 0)
  case atStart => rfl
  case round =>
    obtain rfl := hrel
    go_wp2
    go_ret
    exact ⟨rfl, HB0.out⟩

set_option maxHeartbeats 4000000 in
set_option maxRecDepth 1000000 in
theorem impl_agr_some (m ho t : List UInt8) (v : Value) (B : Nat) (l : List Flds.Fld) (b off cap : Nat) (z : List Flds.Fld) (w : World) (h : Flds.Holds w B v l) (hB : B ≤ w.heap.size) (hl : Flds.total l ≤ 1048576)
    (hc : Flds.At w b off z) (h0 : 0 < z.length) (hzl : z.length ≤ 1048576) :
    Calls Tryz.prog 11 #[.agg #[.string ⟨m.toArray⟩, .string ⟨ho.toArray⟩, .string ⟨t.toArray⟩, v], .slice (some ⟨b, off, none⟩) z.length cap] w (BoolEnd (agr l z) w) := by
  have hbl := Flds.at_lt hc h0
  have HX0 := Lib.hid (bx_start w m ho t v 26)
  have HG := Lib.hid (fun n W (hb : Below w.heap.size w W) => impl_selv m ho t v B l n W (Flds.holds_below h (hb.mono hB)) (Nat.le_trans hB hb.size) hl)
  have HC := Lib.hid hc
  have HNO := Lib.hid (fun k (h : k < z.length) => agr_no (l := l) h)
  have HALL := Lib.hid (agr_all (l := l) (z := z))
  unfold TxtEnd at HG
  clear h hc hl
  unfold BoolEnd
  go_enter Tryz.func11, Tryz.ntmps11
  go_wp2
  go_loopw [9] (fun i wr => ∃ k : Nat, k ≤ z.length ∧ i = .int .i64 k ∧ (∀ j, j < k → (selv (z.getD j Flds.nofld).1 l == (z.getD j Flds.nofld).2) = true) ∧ Hid (Bx w m ho t v wr)) (fun i _ => z.length - (intOf i).toNat)
  case atStart => exact ⟨0, Nat.zero_le _, rfl, fun j hj => absurd hj (by omega), HX0⟩
  case round =>
    clear HX0
    obtain ⟨k, hk, rfl, hall, HX⟩ := hrel
    have HA := Lib.hid hall
    clear hall
    by_cases hlt : k < z.length
    · obtain ⟨c0, c1⟩ := Flds.at_below HC.out HX.out.2 hbl k hlt
      have HN := Lib.hid (HNO.out k hlt)
      have HM : Hid ((selv (z.getD k Flds.nofld).1 l == (z.getD k Flds.nofld).2) = true → ∀ j, j < k + 1 → (selv (z.getD j Flds.nofld).1 l == (z.getD j Flds.nofld).2) = true) := Lib.hid (fun e j hj => by
        rcases Nat.lt_or_ge j k with h' | h'
        · exact HA.out j h'
        · have : j = k := by omega
          subst this; exact e)
      unfold Flds.sv at c0 c1
      generalize (z.getD k Flds.nofld).1 = x at c0 HN HM
      generalize (z.getD k Flds.nofld).2 = y at c1 HN HM
      have HGx := Lib.hid (HG.out x)
      clear HG
      generalize selv x l = r at HGx HN HM
      have hki : (k : Int) < (z.length : Int) := by omega
      have hki0 : (0 : Int) ≤ (k : Int) := by omega
      have HXA : Hid (Bx w m ho t v (wr.alloc (.cells #[.string ⟨x.toArray⟩, .string ⟨y.toArray⟩] 39)).drew) := Lib.hid (by
        obtain ⟨q, hB⟩ := bx_below HX.out ((Below.refl wr.heap.size wr).alloc (Nat.le_refl _) (.cells #[.string ⟨x.toArray⟩, .string ⟨y.toArray⟩] 39))
        exact ⟨q, Rec.below_drew hB⟩)
      have HF : Hid ((wr.alloc (.cells #[.string ⟨x.toArray⟩, .string ⟨y.toArray⟩] 39)).drew.cell? ⟨wr.heap.size, 0, none⟩ = some (.string ⟨x.toArray⟩) ∧ (wr.alloc (.cells #[.string ⟨x.toArray⟩, .string ⟨y.toArray⟩] 39)).drew.cell? ⟨wr.heap.size, 1, none⟩ = some (.string ⟨y.toArray⟩)) := Lib.hid ⟨by show (wr.alloc _).cell? _ = _; rw [World.cell?_alloc_new]; rfl, by show (wr.alloc _).cell? _ = _; rw [World.cell?_alloc_new]; rfl⟩
      have SC : Hid (∀ u u' : World, (u.cell? ⟨w.heap.size, 0, none⟩ = some (.string ⟨m.toArray⟩) ∧ u.cell? ⟨w.heap.size, 1, none⟩ = some (.string ⟨ho.toArray⟩) ∧ u.cell? ⟨w.heap.size, 2, none⟩ = some (.string ⟨t.toArray⟩) ∧ u.cell? ⟨w.heap.size, 3, none⟩ = some v ∧ u.cell? ⟨wr.heap.size, 0, none⟩ = some (.string ⟨x.toArray⟩) ∧ u.cell? ⟨wr.heap.size, 1, none⟩ = some (.string ⟨y.toArray⟩) ∧ Hid (Below w.heap.size w u)) → Below u.heap.size u u' → (u'.cell? ⟨w.heap.size, 0, none⟩ = some (.string ⟨m.toArray⟩) ∧ u'.cell? ⟨w.heap.size, 1, none⟩ = some (.string ⟨ho.toArray⟩) ∧ u'.cell? ⟨w.heap.size, 2, none⟩ = some (.string ⟨t.toArray⟩) ∧ u'.cell? ⟨w.heap.size, 3, none⟩ = some v ∧ u'.cell? ⟨wr.heap.size, 0, none⟩ = some (.string ⟨x.toArray⟩) ∧ u'.cell? ⟨wr.heap.size, 1, none⟩ = some (.string ⟨y.toArray⟩) ∧ Hid (Below w.heap.size w u'))) := Lib.hid (fun u u' ⟨a0, a1, a2, a3, a4, a5, hb⟩ hg => by
        have hl := Rec.lt_of_cell a0
        have hl2 := Rec.lt_of_cell a4
        exact ⟨(hg.cell (p := ⟨w.heap.size, 0, none⟩) hl).trans a0, (hg.cell (p := ⟨w.heap.size, 1, none⟩) hl).trans a1, (hg.cell (p := ⟨w.heap.size, 2, none⟩) hl).trans a2, (hg.cell (p := ⟨w.heap.size, 3, none⟩) hl).trans a3, (hg.cell (p := ⟨wr.heap.size, 0, none⟩) hl2).trans a4, (hg.cell (p := ⟨wr.heap.size, 1, none⟩) hl2).trans a5, Lib.hid (Base.then_below hb.out hg)⟩)
      have HSD := Lib.hid (show _ ∧ _ ∧ _ ∧ _ ∧ _ ∧ _ ∧ _ from ⟨HXA.out.1.1, HXA.out.1.2.1, HXA.out.1.2.2.1, HXA.out.1.2.2.2, HF.out.1, HF.out.2, Lib.hid HXA.out.2⟩)
      clear HC HNO HALL HA
      cases hq : (r == y)
      all_goals
        rw [hq] at HN HM
        go_wp2_with (fail)
        go_region_held_law (fun u => u.cell? ⟨w.heap.size, 0, none⟩ = some (.string ⟨m.toArray⟩) ∧ u.cell? ⟨w.heap.size, 1, none⟩ = some (.string ⟨ho.toArray⟩) ∧ u.cell? ⟨w.heap.size, 2, none⟩ = some (.string ⟨t.toArray⟩) ∧ u.cell? ⟨w.heap.size, 3, none⟩ = some v ∧ u.cell? ⟨wr.heap.size, 0, none⟩ = some (.string ⟨x.toArray⟩) ∧ u.cell? ⟨wr.heap.size, 1, none⟩ = some (.string ⟨y.toArray⟩) ∧ Hid (Below w.heap.size w u))
          (first | exact HSD.out | go_keep | exact SC.out _ _ (by assumption) hb1 | (exact SC.out _ _ HSD.out hb1))
          (first | (go_at_call 25; refine (HGx.out _ HXA.out.2).mono ?_; rintro e w1 ⟨rfl, hb1⟩))
      · all_goals (
          have HSE := SC.out _ _ HSD.out hb1
          have HKB := Lib.hid HSE.2.2.2.2.2.2.out
          clear HSE
          go_wp2
          go_ret
          exact ⟨ret_b (HN.out (by trivial)).symm, HKB.out⟩)
      · all_goals (
          have HKX : Hid (Bx w m ho t v w1) := Lib.hid (bx_below HXA.out hb1)
          clear hb1
          go_wp2
          go_roundw
          case rel => exact ⟨k + 1, by omega, by go_num, HM.out (by trivial), HKX⟩
          case measure => simp [intOf]; omega)
    · have HE := Lib.hid (HALL.out (fun j hj => HA.out j (by omega)))
      have hke : ¬ (k : Int) < (z.length : Int) := by omega
      go_wp2
      go_ret
      exact ⟨ret_b HE.out.symm, HX.out.2⟩

theorem impl_agr (m ho t : List UInt8) (v : Value) (B : Nat) (l : List Flds.Fld) (v2 : Value) (B2 : Nat) (z : List Flds.Fld) (w : World) (h : Flds.Holds w B v l) (hB : B ≤ w.heap.size) (hl : Flds.total l ≤ 1048576) (h2 : Flds.Holds w B2 v2 z) (hzl : z.length ≤ 1048576) :
    Calls Tryz.prog 11 #[.agg #[.string ⟨m.toArray⟩, .string ⟨ho.toArray⟩, .string ⟨t.toArray⟩, v], v2] w (BoolEnd (agr l z) w) := by
  rcases h2 with ⟨rfl, a, cap, rfl⟩ | ⟨h0, b, off, cap, rfl, hb, _, hc⟩
  · exact impl_agr_nil m ho t v l a cap w
  · exact impl_agr_some m ho t v B l b off cap z w h hB hl hc h0 hzl
end Go.Proofs.YtegaakgmfphcaaaGreatDoor.Sel

/-
  PLAIN FACTS on a map from texts to bools that the call has made, taken as a set: what it holds behind a store of true, behind a delete, and what a look-up answers; laws at the operations for the walk.
-/
namespace Go.Proofs.YtegaakgmfphcaaaGreatDoor.Mpb
open Go Go.RowKit Go.Maps
set_option linter.unusedVariables false
set_option maxRecDepth 1000000

/-- Block b is a set of texts: x is in it just where f says so; at most n were put in. -/
def Set (w : World) (P : Program) (K E : TypeId) (b n : Nat) (f : List UInt8 → Bool) : Prop := ∃ D : DataW Unit, w.ownsMap P K (plainElem P E) b n D ∧ ∀ s : List UInt8, D.atKey (.string s) (.lit (.bool false)) = .lit (.bool (f s))
section
variable {P : Program} {K E : TypeId} {b n : Nat} {f : List UInt8 → Bool} {w w' : World}
theorem made (w : World) : Set (w.alloc (.map #[] 0)) P K E w.heap.size 0 (fun _ => false) :=
  ⟨_, World.ownsMap_made w P K _, fun s => WideAt.atKey_none _ (fun p hp => by cases hp)⟩
theorem kept {row : Option Nat} (h : Set w P K E b n f) (hg : w.grownBy w' row) (hne : some b ≠ row) : Set w' P K E b n f := by
  obtain ⟨D, h1, h2⟩ := h
  exact ⟨D, h1.kept hg hne, h2⟩
theorem below (h : Set w P K E b n f) (hb : Below w.heap.size w w') : Set w' P K E b n f := kept (row := none) h (Rec.grown_of_below hb) (by simp)
theorem lt (h : Set w P K E b n f) : b < w.heap.size := by obtain ⟨D, h1, _⟩ := h; exact h1.lt
theorem same {g : List UInt8 → Bool} (h : Set w P K E b n f) (hf : ∀ x, f x = g x) : Set w P K E b n g := by
  obtain ⟨D, h1, h2⟩ := h
  exact ⟨D, h1, fun s => by rw [h2, hf]⟩
theorem bool_inv (he : P.underlying E = some .bool) {v : Value} {z : DataW Unit × List MemPlace} (h : plainElem P E v = some z) : ∃ c, v = .bool c ∧ z = (.lit (.bool c), []) := by
  unfold plainElem at h
  rw [he] at h
  cases v <;> simp at h
  obtain rfl := h
  exact ⟨_, rfl, rfl⟩

/-- m[s], at the operation. -/
theorem look (w : World) {ops : Array Oper} {rest : List Oper} {o : Oper} {a : Act} {Q : Exit → Act → World → Prop}
    (hg : o.guard = none) (m x : Operand) (t : TypeId) (hop : o.op = Op.lookup t m x false) (K E : TypeId)
    (ht : P.underlying t = some (.map K E)) (hk : P.underlying K = some .string) (he : P.underlying E = some .bool) (hz : (zeroValue E).run P w = .ok (.bool false) w) (b n : Nat) (f : List UInt8 → Bool)
    (hm : a.eval m = .map (some b)) (hs : Set w P K E b n f) (s : ByteArray) (hx : a.eval x = .string s) (hl : s.size ≤ maxLen) (c0 : Bool) (hc0 : f s.data.toList = c0)
    (hK : wpList P ops Q rest (a.put o.dst (.bool c0)) w) :
    wpList P ops Q (o :: rest) a w := by
  obtain ⟨D, hown, hD⟩ := hs
  refine wpList_plain hg fun K' hK' => ?_
  obtain ⟨v, ps, hrun, hv⟩ := hown.lookup (string_keyed hk) ht hz (plainElem_bool he false) (WideMaps.keyOf_string_mk hk hl)
  obtain ⟨c, rfl, hc⟩ := bool_inv he hv
  rw [hD, hc0] at hc
  simp only [Prod.mk.injEq, DataW.lit.injEq, Lit.bool.injEq] at hc
  rw [hc.1] at hK
  unfold Oper.wp
  simp [execOp, hop, hm, hx, hrun, Result.andThen]
  exact hK' _ _ hK

/-- m[s] = true, at the operation. -/
theorem put (w : World) {ops : Array Oper} {rest : List Oper} {o : Oper} {a : Act} {Q : Exit → Act → World → Prop}
    (hg : o.guard = none) (m x v : Operand) (t : TypeId) (hop : o.op = Op.mapUpdate t m x v) (K E : TypeId)
    (ht : P.underlying t = some (.map K E)) (hk : P.underlying K = some .string) (he : P.underlying E = some .bool) (b n : Nat) (f : List UInt8 → Bool)
    (hm : a.eval m = .map (some b)) (hs : Set w P K E b n f) (hn : n < maxLen) (s : ByteArray) (hx : a.eval x = .string s) (hv : a.eval v = .bool true) (hl : s.size ≤ maxLen)
    (hK : ∀ w', Set w' P K E b (n + 1) (fun y => y == s.data.toList || f y) → w.grownBy w' (some b) → wpList P ops Q rest (a.put o.dst undef) w') :
    wpList P ops Q (o :: rest) a w := by
  obtain ⟨D, hown, hD⟩ := hs
  refine wpList_mapUpdate_own w hg m x v t hop K E (string_keyed hk) ht (plainElem P E) b n D hm hown hn _ _ (.string s.data.toList) hx hv (WideMaps.keyOf_string_mk hk hl) (.lit (.bool true)) [] (plainElem_bool he true) ?_
  intro w' h1 h2
  refine hK w' ⟨_, h1, fun y => ?_⟩ h2
  by_cases e : y = s.data.toList
  · subst e
    rw [atKey_put_same hown.isMap (by first | trivial | (simp [WideAt.IsKeyLit]) | decide)]
    simp
  · rw [atKey_put_other (fun h => e (by injection h)), hD]
    simp [e]

/-- delete(m, s), at the operation. -/
theorem drop (w : World) {ops : Array Oper} {rest : List Oper} {o : Oper} {a : Act} {Q : Exit → Act → World → Prop}
    (hg : o.guard = none) (m x : Operand) (t K : TypeId) (hop : o.op = Op.call { callee := Callee.builtin Builtin.delete, args := #[m, x], argTypes := #[t, K] }) (E : TypeId)
    (ht : P.underlying t = some (.map K E)) (hk : P.underlying K = some .string) (b n : Nat) (f : List UInt8 → Bool)
    (hm : a.eval m = .map (some b)) (hs : Set w P K E b n f) (s : ByteArray) (hx : a.eval x = .string s) (hl : s.size ≤ maxLen)
    (hK : ∀ w', Set w' P K E b n (fun y => !(y == s.data.toList) && f y) → w.grownBy w' (some b) → wpList P ops Q rest (a.put o.dst (.tuple #[])) w') :
    wpList P ops Q (o :: rest) a w := by
  obtain ⟨D, hown, hD⟩ := hs
  refine wpList_delete_own w hg m x t K hop E (string_keyed hk) ht (plainElem P E) b n D hm hown _ (.string s.data.toList) hx (WideMaps.keyOf_string_mk hk hl) ?_
  intro w' h1 h2
  refine hK w' ⟨_, h1, fun y => ?_⟩ h2.grown
  by_cases e : y = s.data.toList
  · subst e
    rw [atKey_del_same]
    simp
  · rw [atKey_del_other (fun h => e (by injection h)), hD]
    simp [e]
end
end Go.Proofs.YtegaakgmfphcaaaGreatDoor.Mpb
