/-
  CONTRACTS of the laws' markFieldS and heldFieldS: the first writes marks into a slice of fields that is one's own, the second finds them there; nothing older than that slice is changed.
-/
import Derived.Test.YtbkjioggohjnfaaDoorMarkText
import Derived.Test.YtbkjioggohjnfaaDoorFldTot
import Derived.Outline
import Derived.Deep.RegionWith
import Derived.RegionTactic
namespace Go.Proofs.YtbkjioggohjnfaaDoor.Flds
open Go Go.RowKit Mark
set_option linter.unusedVariables false
set_option maxRecDepth 1000000

def mka (k j : Nat) : List UInt8 := mt (k + j * 2)
def mkb (k j : Nat) : List UInt8 := mt (k + j * 2 + 1)
def mkl (k n : Nat) : List Fld := (List.range n).map (fun i => (mka k i, mkb k i))
theorem mkl_len (k n : Nat) : (mkl k n).length = n := by unfold mkl; simp
theorem mkl_at {k n j : Nat} (h : j < n) : (mkl k n).getD j nofld = (mka k j, mkb k j) := by unfold mkl; simp [List.getD, h]
/-- The first j places are marked. -/
def mks (l : List Fld) (k j : Nat) : List Fld := mkl k j ++ l.drop j
theorem mks_zero (l : List Fld) (k : Nat) : mks l k 0 = l := by unfold mks mkl; simp
theorem mks_len {l : List Fld} {k j : Nat} (h : j ≤ l.length) : (mks l k j).length = l.length := by unfold mks; rw [List.length_append, mkl_len, List.length_drop]; omega
theorem mks_more {l : List Fld} {k j : Nat} (h : j < l.length) : (mks l k j).set j (mka k j, mkb k j) = mks l k (j + 1) := by
  unfold mks
  rw [List.set_append_right _ _ (by rw [mkl_len]; exact Nat.le_refl _), mkl_len, Nat.sub_self, List.drop_eq_getElem_cons h, List.set_cons_zero]
  unfold mkl
  rw [List.range_succ, List.map_append, List.append_assoc]; rfl
theorem mks_all {l : List Fld} {k j : Nat} (h : j = l.length) : mks l k j = mkl k l.length := by unfold mks; subst h; simp
theorem ret_nat {a b : Nat} (h : a = b) : Ending.returned (.int .i64 (a : Int)) = .returned (.int .i64 (b : Int)) := by rw [h]

def Marked (B : Nat) (v : Value) (k n : Nat) (w : World) (e : Ending) (w' : World) : Prop := e = .returned (.int .i64 ((k + n * 2 : Nat) : Int)) ∧ Own w' B v (mkl k n) ∧ w.grownBy w' v.ownBlock
theorem grown_trans {a b c : World} {row : Option Nat} (h : a.grownBy b row) (k : b.grownBy c row) : a.grownBy c row := ⟨k.os.trans h.os, k.tape.trans h.tape, k.output.trans h.output, Nat.le_trans h.size k.size, fun i hi hr => (k.block i (Nat.lt_of_lt_of_le hi h.size) hr).trans (h.block i hi hr)⟩
theorem grown_of_below {a b : World} {row : Option Nat} (h : Below a.heap.size a b) : a.grownBy b row := ⟨h.os, h.tape, h.output, h.size, fun i hi _ => h.block i hi⟩
theorem shape_at {w : World} {B : Nat} {v : Value} {T : TypeId} {s n : Nat} {xs : List Value} (h : w.ownsRow B T s v n xs) : ∃ a cap, v = .slice a n cap ∧ (0 < n → ∃ g, a = some ⟨g, 0, none⟩) := by
  rcases h.2 with ⟨rfl, h0⟩ | ⟨g, cap, cur, rfl, _⟩
  · exact ⟨none, 0, by rw [h0], fun h' => by omega⟩
  · exact ⟨_, cap, rfl, fun _ => ⟨g, rfl⟩⟩

set_option maxHeartbeats 2000000 in
theorem mark_flds (B : Nat) (v : Value) (l : List Fld) (k : Nat) (w : World) (hown : Own w B v l) (hB : B ≤ w.heap.size) (hk : 1 ≤ k) (hn : k + l.length * 2 ≤ 100000000) :
    Calls Tryd.prog 10 #[v, .int .i64 (k : Int)] w (Marked B v k l.length w) := by
  obtain ⟨a, cap, rfl, ha⟩ := shape_at hown
  have HA := Lib.hid ha
  have HO := Lib.hid hown
  clear ha hown
  go_enter Tryd.func10, Tryd.ntmps10
  go_wp2
  go_loopw [1, 5] (fun q i wr => ∃ j : Nat, j ≤ l.length ∧ i = .int .i64 (j : Int) ∧ q = .int .i64 ((k + j * 2 : Nat) : Int) ∧ wr.ownsRow B 40 2 (.slice a l.length cap) l.length (fcs (mks l k j)) ∧ w.grownBy wr (Value.ownBlock (.slice a l.length cap))) (fun _ i _ => l.length - (intOf i).toNat)
  case atStart => exact ⟨0, Nat.zero_le _, rfl, rfl, by rw [mks_zero]; exact HO.out, grown_of_below (Below.refl _ _)⟩
  case round =>
    clear HO
    obtain ⟨j, hj, rfl, rfl, hown, hb⟩ := hrel
    by_cases hlt : j < l.length
    · obtain ⟨g, rfl⟩ := HA.out (by omega)
      have HB := Lib.hid hb
      have HO := Lib.hid hown
      have HM := Lib.hid (mks_more (k := k) hlt)
      have hF := fcs_len (mks l k j)
      rw [mks_len (Nat.le_of_lt hlt)] at hF
      have HF := Lib.hid hF
      have HK : Hid (k + j * 2 + 1 ≤ 100000000) := Lib.hid (by omega)
      have HG := Lib.hid (hown.lt g rfl)
      clear hb hown hF
      go_wp2_with (fail)
      go_at_call 23
      refine (mark_text (k + j * 2) wr (by omega) (by have := HK.out; omega)).mono ?_
      rintro e w1 ⟨rfl, hb1⟩
      have hr1 := row_below HO.out hb1
      obtain ⟨d1, d2⟩ := own_cell hr1 hlt
      have f1 := hr1.frozenAt (j * 2)
      have s1 := hr1.stored (j * 2) (sv (mka k j))
      have HS1 := Lib.hid s1.1
      have HB1 := Lib.hid (grown_trans (grown_trans HB.out (grown_of_below hb1)) s1.2)
      clear hb1 hr1 s1
      unfold sv at d1 d2
      rw [show mt (k + j * 2) = mka k j from rfl]
      unfold sv at HS1 HB1
      generalize hxa : mka k j = xa at HS1 HB1 HM ⊢
      have HD := Lib.hid ((fcs_at (l := mks l k j) (j := j) (by rw [mks_len (Nat.le_of_lt hlt)]; exact hlt)).2)
      unfold sv at HD
      generalize ((mks l k j).getD j nofld) = old at d1 d2 HD
      go_wp2_with (fail)
      go_at_call 23
      have c2 := mark_text (k + j * 2 + 1) (w1.setCell ⟨g, j * 2, none⟩ (.string ⟨xa.toArray⟩)) (by omega) (by have := HK.out; omega)
      rw [show ((k + j * 2 + 1 : Nat) : Int) = (k : Int) + (j : Int) * 2 + 1 by omega] at c2
      refine c2.mono ?_
      rintro e w2 ⟨rfl, hb2⟩
      have hr2 := row_below HS1.out hb2
      have e1 : w2.cell? ⟨g, j * 2 + 1, none⟩ = some (.string ⟨old.2.toArray⟩) := by
        rw [hr2.cellAt (j * 2 + 1) (by omega), List.getElem?_set_ne (by omega)]
        have h0 := HF.out
        exact HD.out
      have f2 := hr2.frozenAt (j * 2 + 1)
      have s2 := hr2.stored (j * 2 + 1) (sv (mkb k j))
      have HS2 : Hid _ := Lib.hid s2.1
      have HB2 := Lib.hid (grown_trans (grown_trans HB1.out (grown_of_below hb2)) s2.2)
      clear hb2 hr2 s2
      rw [show mt (k + j * 2 + 1) = mkb k j from rfl]
      unfold sv at HS2 HB2
      have HQ := Lib.hid (fcs_set (mks l k j) j (xa, mkb k j))
      unfold sv at HQ
      simp only at HQ
      rw [HM.out] at HQ
      generalize mkb k j = xb at HS2 HB2 HQ ⊢
      go_wp2
      go_roundw
      case rel => exact ⟨j + 1, by omega, by go_num, by go_num, by rw [← HQ.out]; exact HS2.out, HB2.out⟩
      case measure => simp [intOf]; omega
    · have HE := Lib.hid (mks_all (l := l) (k := k) (show j = l.length by omega))
      have HR := Lib.hid (show k + j * 2 = k + l.length * 2 by omega)
      have HO := Lib.hid (And.intro hown hb)
      clear hown hb
      go_wp2
      go_ret
      exact ⟨ret_nat HR.out, by show World.ownsRow _ _ _ _ _ _ _; rw [mkl_len]; rw [← HE.out]; exact HO.out.1, HO.out.2⟩

def Held (k n : Nat) (w : World) (e : Ending) (w' : World) : Prop := e = .returned (.int .i64 ((k + n * 2 : Nat) : Int)) ∧ Below w.heap.size w w'
theorem below_drew' {B : Nat} {a w : World} (h : Below B a w) : Below B a w.drew := ⟨h.os, h.tape, h.output, h.size, h.block⟩
theorem below_of_drew {B : Nat} {w w' : World} (h : Below B w.drew w') : Below B w w' := ⟨h.os, h.tape, h.output, h.size, h.block⟩
end Go.Proofs.YtbkjioggohjnfaaDoor.Flds
