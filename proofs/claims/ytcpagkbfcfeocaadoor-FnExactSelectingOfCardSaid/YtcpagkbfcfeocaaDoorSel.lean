/-
  CONTRACTS of how a selecting field is read (the program's selectingValue) and of both sides' VisitorOf; nothing that was there before is changed.
-/
import Derived.Test.YtcpagkbfcfeocaaDoorLGet
import Derived.Test.YtcpagkbfcfeocaaDoorSplImpl
import Derived.Test.YtcpagkbfcfeocaaDoorSplLen
import Derived.Test.YtcpagkbfcfeocaaDoorJoinI
import Derived.Test.YtcpagkbfcfeocaaDoorJoinS
import Derived.Test.YtcpagkbfcfeocaaDoorKept
import Derived.Test.YtcpagkbfcfeocaaDoorRec
namespace Go.Proofs.YtcpagkbfcfeocaaDoor.Sel
open Go Go.RowKit
set_option linter.unusedVariables false

/-- The value of a selecting field. -/
def selv (n : List UInt8) (l : List Flds.Fld) : List UInt8 := Tx.join (Tx.split (Flds.got n l))
def TxtEnd (t : List UInt8) (w : World) (e : Ending) (w' : World) : Prop := e = .returned (.string ⟨t.toArray⟩) ∧ Below w.heap.size w w'
theorem push_sum (p : List UInt8) (L : List (List UInt8)) : ((Tx.push p L).map (·.length)).sum ≤ p.length + (L.map (·.length)).sum := by
  cases L with
  | nil => simp [Tx.push]
  | cons a r => simp [Tx.push]; omega
theorem cuts_sum : ∀ n q (l : List UInt8), l.length ≤ n → ((Tx.cuts q l).map (·.length)).sum ≤ l.length := by
  intro n
  induction n with
  | zero => intro q l hl; rw [List.length_eq_zero_iff.1 (by omega : l.length = 0), Tx.cuts_nil]; simp
  | succ n ih =>
    intro q l hl
    cases l with
    | nil => rw [Tx.cuts_nil]; simp
    | cons c r =>
      simp at hl
      rw [Tx.cuts_cons]
      split
      · have h1 := push_sum (c :: r.take 1) (Tx.cuts true (r.drop 1))
        have h2 := ih true (r.drop 1) (by simp; omega)
        have h3 : (r.take 1).length + (r.drop 1).length = r.length := by simp; omega
        rw [List.length_cons] at h1 ⊢; omega
      · split
        · have h1 := push_sum [c] (Tx.cuts (!q) r); have h2 := ih (!q) r hl; rw [List.length_cons] at h1 ⊢; rw [List.length_nil] at h1; omega
        · split
          · have h2 := ih false r hl; rw [List.map_cons, List.sum_cons, List.length_nil, List.length_cons]; omega
          · have h1 := push_sum [c] (Tx.cuts q r); have h2 := ih q r hl; rw [List.length_cons] at h1 ⊢; rw [List.length_nil] at h1; omega
theorem keep_sum : ∀ L : List (List UInt8), ((Tx.keep L).map (·.length)).sum ≤ (L.map (·.length)).sum
  | [] => by simp [Tx.keep]
  | x :: r => by
    have h := keep_sum r
    have e : Tx.keep (x :: r) = Tx.keep [x] ++ Tx.keep r := Tx.keep_append [x] r
    have h2 := Tx.trim_short x
    rw [e, Tx.keep_one, List.map_append, List.sum_append, List.map_cons, List.sum_cons]
    split
    · simp; omega
    · simp; omega
theorem split_total (l : List UInt8) : Strs.total (Tx.split l) ≤ 2 * l.length + 1 := by
  have h1 := keep_sum (Tx.cuts false l)
  have h2 := cuts_sum _ false l (Nat.le_refl _)
  have h3 := Tx.split_count l
  unfold Strs.total
  unfold Tx.split at h3 ⊢
  omega
theorem selv_len (n : List UInt8) (l : List Flds.Fld) : (selv n l).length ≤ 20 * Flds.total l + 20 := by
  have h1 := Tx.join_len (Tx.split (Flds.got n l)) (Tx.split (Flds.got n l)).length (Nat.le_refl _)
  rw [List.take_length] at h1
  have h2 := Tx.pre_le (Tx.split (Flds.got n l)) (Tx.split (Flds.got n l)).length
  have h3 := split_total (Flds.got n l)
  have h4 := Flds.got_len n l
  unfold Strs.total at h3
  unfold selv
  omega
theorem big (n : List UInt8) {l : List Flds.Fld} (hl : Flds.total l ≤ 1048576) : (⟨(Flds.got n l).toArray⟩ : ByteArray).size ≤ 4194304 ∧ Strs.total (Tx.split (Flds.got n l)) ≤ 67108864 := by
  have h4 := Flds.got_len n l
  have h3 := split_total (Flds.got n l)
  refine ⟨by simp [ByteArray.size]; omega, by omega⟩

set_option maxHeartbeats 1000000 in
theorem impl_selv (m ho t : List UInt8) (v : Value) (B : Nat) (l : List Flds.Fld) (n : List UInt8) (w : World) (h : Flds.Holds w B v l) (hB : B ≤ w.heap.size) (hl : Flds.total l ≤ 1048576) :
    Calls Tryd.prog 41 #[.agg #[.string ⟨m.toArray⟩, .string ⟨ho.toArray⟩, .string ⟨t.toArray⟩, v], .string ⟨n.toArray⟩] w (TxtEnd (selv n l) w) := by
  have HB0 : Hid (Below w.heap.size w (w.alloc (.cells #[.string ⟨m.toArray⟩, .string ⟨ho.toArray⟩, .string ⟨t.toArray⟩, v] 39))) := Lib.hid ((Below.refl _ _).alloc (Nat.le_refl _) _)
  have HG := Lib.hid (Flds.impl_get v B l n _ (Flds.holds_below h (HB0.out.mono hB)) (Nat.le_trans hB HB0.out.size) hl)
  obtain ⟨b1, b2⟩ := big n hl
  have HSP := Lib.hid (fun W => Tx.impl_split ⟨(Flds.got n l).toArray⟩ W b1)
  have HJ := Lib.hid (fun u B W (h : Strs.Holds W B u (Tx.split (Flds.got n l))) => Tx.impl_join u B _ W h b2)
  unfold Flds.GetEnd at HG
  unfold Tx.SplitEnd at HSP
  unfold Tx.JoinEnd at HJ
  have hj : Tx.join (Flds.vals n l) = Flds.got n l := rfl
  rw [hj] at HG
  unfold TxtEnd selv
  clear h hl hj b1 b2
  generalize Flds.got n l = g at HG HSP HJ ⊢
  generalize decide (0 < (Flds.vals n l).length) = q at HG
  have he : (⟨g.toArray⟩ : ByteArray).data.toList = g := by simp
  rw [he] at HSP
  clear he
  generalize Tx.split g = xs at HSP HJ ⊢
  generalize Tx.join xs = r at HJ ⊢
  go_enter Tryd.func41, Tryd.ntmps41
  go_wp2_with (fail)
  go_at_call 34
  refine HG.out.mono ?_
  rintro e w1 ⟨rfl, hb1⟩
  have HB1 := Lib.hid (HB0.out.trans (hb1.mono HB0.out.size))
  clear hb1
  go_wp2_with (fail)
  go_at_call 35
  refine (HSP.out _).mono ?_
  rintro e w2 ⟨u, rfl, ho2, hb2⟩
  have HB2 := Lib.hid (Base.then_below HB1.out hb2)
  have HO := Lib.hid (HJ.out u _ _ (Strs.own_holds ho2))
  clear hb2 ho2
  go_wp2_with (fail)
  go_at_call 50
  refine HO.out.mono ?_
  rintro e w3 ⟨rfl, hb3⟩
  have HB3 := Lib.hid (Base.then_below HB2.out hb3)
  clear hb3
  go_wp2
  go_ret
  exact ⟨rfl, HB3.out⟩
end Go.Proofs.YtcpagkbfcfeocaaDoor.Sel
