/-
  CONTRACTS AND PLAIN FACTS, several texts in one; each says in its own words what it proves.
-/
import Derived.Test.YtojmkdggkaocdaaGreatDoorPvW
import Derived.Test.YtojmkdggkaocdaaGreatDoorPvM

/-
  CONTRACTS of both sides' VisitorOf; nothing that was there before is changed.
-/
namespace Go.Proofs.YtojmkdggkaocdaaGreatDoor.Sel
open Go Go.RowKit
set_option linter.unusedVariables false
set_option maxRecDepth 1000000
def visN : List UInt8 := [97, 117, 116, 104, 111, 114, 105, 122, 97, 116, 105, 111, 110]
/-- The visitor that a request names. -/
def vis (l : List Flds.Fld) : List UInt8 := if Tx.token (selv visN l) = true ∧ (selv visN l).length ≤ 20 then selv visN l else []
theorem vis_len (l : List Flds.Fld) : (vis l).length ≤ 20 := by unfold vis; split; omega; simp
theorem ret_v {a b : List UInt8} (h : a = b) : Ending.returned (.string ⟨a.toArray⟩) = .returned (.string ⟨b.toArray⟩) := by rw [h]
theorem spec_tok (l : List UInt8) (w : World) (hl : l.length ≤ 4000000000) : Calls Tryz.prog 103 #[.string ⟨l.toArray⟩] w fun e w' => e = .returned (.bool (Tx.token l)) ∧ w = w' := by
  have := Tx.spec_token ⟨l.toArray⟩ w (by simp [ByteArray.size]; omega)
  simpa using this
theorem impl_tok (l : List UInt8) (w : World) (hl : l.length ≤ 4000000000) : Calls Tryz.prog 113 #[.string ⟨l.toArray⟩] w fun e w' => e = .returned (.bool (Tx.token l)) ∧ w = w' := by
  have := Tx.impl_token ⟨l.toArray⟩ w (by simp [ByteArray.size]; omega)
  simpa using this

set_option maxHeartbeats 1000000 in
theorem spec_vis (m ho t : List UInt8) (v : Value) (B : Nat) (l : List Flds.Fld) (w : World) (h : Flds.Holds w B v l) (hB : B ≤ w.heap.size) (hl : Flds.total l ≤ 1048576) :
    Calls Tryz.prog 59 #[.agg #[.string ⟨m.toArray⟩, .string ⟨ho.toArray⟩, .string ⟨t.toArray⟩, v]] w (TxtEnd (vis l) w) := by
  have HB0 : Hid (Below w.heap.size w (w.alloc (.cells #[.string ⟨m.toArray⟩, .string ⟨ho.toArray⟩, .string ⟨t.toArray⟩, v] 62))) := Lib.hid ((Below.refl _ _).alloc (Nat.le_refl _) _)
  have HG := Lib.hid (Flds.spec_lget v B l visN _ (Flds.holds_below h (HB0.out.mono hB)) (by omega))
  obtain ⟨b1, b2⟩ := big visN hl
  have HSP := Lib.hid (fun W => Tx.spec_split ⟨(Flds.got visN l).toArray⟩ W b1)
  have HJ := Lib.hid (fun u B W (h : Strs.Holds W B u (Tx.split (Flds.got visN l))) => Tx.spec_join u B _ W h b2)
  have HTK := Lib.hid (fun W => spec_tok (selv visN l) W (by have := selv_len visN l; omega))
  have HLE := selv_len visN l
  have HE1 : Hid (Tx.token (selv visN l) = false → vis l = []) := Lib.hid (fun h => by unfold vis; rw [h]; simp)
  have HE2 : Hid (Tx.token (selv visN l) = true → 20 < (selv visN l).length → vis l = []) := Lib.hid (fun h h2 => by unfold vis; rw [if_neg (by omega)])
  have HE3 : Hid (Tx.token (selv visN l) = true → (selv visN l).length ≤ 20 → vis l = selv visN l) := Lib.hid (fun h h2 => by unfold vis; rw [if_pos ⟨h, h2⟩])
  unfold Flds.GotEnd at HG
  unfold Tx.SplitEnd at HSP
  unfold Tx.JoinEnd at HJ
  unfold TxtEnd
  have hsv : selv visN l = Tx.join (Tx.split (Flds.got visN l)) := rfl
  rw [← hsv] at HJ
  have hrl : (selv visN l).length ≤ 4000000000 := by omega
  clear h hl b1 b2 HLE hsv
  generalize selv visN l = r at HJ HTK HE1 HE2 HE3 hrl
  generalize vis l = z at HE1 HE2 HE3 ⊢
  generalize Flds.got visN l = g at HG HSP HJ
  have he : (⟨g.toArray⟩ : ByteArray).data.toList = g := by simp
  rw [he] at HSP
  clear he
  generalize Tx.split g = xs at HSP HJ
  unfold visN at HG
  cases hk : Tx.token r
  all_goals
    rw [hk] at HTK HE1 HE2 HE3
    clear hk
    go_enter Tryz.func59, Tryz.ntmps59
    go_wp2_with (fail)
    go_at_call 58
    refine HG.out.mono ?_
    rintro e w1 ⟨rfl, hb1⟩
    have HB1 := Lib.hid (HB0.out.trans (hb1.mono HB0.out.size))
    clear hb1
    go_wp2_with (fail)
    go_at_call 102
    refine (HSP.out _).mono ?_
    rintro e w2 ⟨u, rfl, ho2, hb2⟩
    have HB2 := Lib.hid (Base.then_below HB1.out hb2)
    have HO := Lib.hid (HJ.out u _ _ (Strs.own_holds ho2))
    clear hb2 ho2
    go_wp2_with (fail)
    go_at_call 101
    refine HO.out.mono ?_
    rintro e w3 ⟨rfl, hb3⟩
    have HB3 := Lib.hid (Base.then_below HB2.out hb3)
    clear hb3
    go_wp2_with (fail)
    go_at_call 103
    refine (HTK.out _).mono ?_
    rintro e w4 ⟨rfl, rfl⟩
  · go_wp2
    go_ret
    exact ⟨ret_v (HE1.out (by trivial)).symm, HB3.out⟩
  · have hsz : (⟨r.toArray⟩ : ByteArray).size = r.length := by simp [ByteArray.size]
    by_cases h20 : 20 < (r.length : Int)
    · go_wp2
      go_ret
      exact ⟨ret_v (HE2.out (by trivial) (by omega)).symm, HB3.out⟩
    · go_wp2
      go_ret
      exact ⟨ret_v (HE3.out (by trivial) (by omega)).symm, HB3.out⟩

set_option maxHeartbeats 1000000 in
theorem impl_vis (m ho t : List UInt8) (v : Value) (B : Nat) (l : List Flds.Fld) (w : World) (h : Flds.Holds w B v l) (hB : B ≤ w.heap.size) (hl : Flds.total l ≤ 1048576) :
    Calls Tryz.prog 64 #[.agg #[.string ⟨m.toArray⟩, .string ⟨ho.toArray⟩, .string ⟨t.toArray⟩, v]] w (TxtEnd (vis l) w) := by
  have HB0 : Hid (Below w.heap.size w (w.alloc (.cells #[.string ⟨m.toArray⟩, .string ⟨ho.toArray⟩, .string ⟨t.toArray⟩, v] 62))) := Lib.hid ((Below.refl _ _).alloc (Nat.le_refl _) _)
  have HG := Lib.hid (impl_selv m ho t v B l visN _ (Flds.holds_below h (HB0.out.mono hB)) (Nat.le_trans hB HB0.out.size) hl)
  have HTK := Lib.hid (fun W => impl_tok (selv visN l) W (by have := selv_len visN l; omega))
  have HLE := selv_len visN l
  have HE1 : Hid (Tx.token (selv visN l) = false → vis l = []) := Lib.hid (fun h => by unfold vis; rw [h]; simp)
  have HE2 : Hid (20 < (selv visN l).length → vis l = []) := Lib.hid (fun h2 => by unfold vis; rw [if_neg (by omega)])
  have HE3 : Hid (Tx.token (selv visN l) = true → (selv visN l).length ≤ 20 → vis l = selv visN l) := Lib.hid (fun h h2 => by unfold vis; rw [if_pos ⟨h, h2⟩])
  have hrl : (selv visN l).length ≤ 4000000000 := by omega
  unfold TxtEnd at HG ⊢
  clear h hl HLE
  generalize selv visN l = r at HG HTK HE1 HE2 HE3 hrl
  generalize vis l = z at HE1 HE2 HE3 ⊢
  unfold visN at HG
  have hsz : (⟨r.toArray⟩ : ByteArray).size = r.length := by simp [ByteArray.size]
  go_enter Tryz.func64, Tryz.ntmps64
  go_wp2_with (fail)
  go_at_call 112
  refine HG.out.mono ?_
  rintro e w1 ⟨rfl, hb1⟩
  have HB1 := Lib.hid (HB0.out.trans (hb1.mono HB0.out.size))
  clear hb1
  by_cases h20 : 20 < (r.length : Int)
  · go_wp2
    go_ret
    exact ⟨ret_v (HE2.out (by omega)).symm, HB1.out⟩
  · cases hk : Tx.token r
    all_goals
      rw [hk] at HTK HE1 HE3
      clear hk
      go_wp2_with (fail)
      go_at_call 113
      refine (HTK.out _).mono ?_
      rintro e w4 ⟨rfl, rfl⟩
    · go_wp2
      go_ret
      exact ⟨ret_v (HE1.out (by trivial)).symm, HB1.out⟩
    · go_wp2
      go_ret
      exact ⟨ret_v (HE3.out (by trivial) (by omega)).symm, HB1.out⟩
end Go.Proofs.YtojmkdggkaocdaaGreatDoor.Sel
