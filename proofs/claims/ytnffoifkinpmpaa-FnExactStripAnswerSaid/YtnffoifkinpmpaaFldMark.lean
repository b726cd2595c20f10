/-
  CONTRACTS of the laws' markFieldS and heldFieldS: the first writes marks into a slice of fields that is one's own, the second finds them there; nothing older than that slice is changed.
-/
import Derived.Test.YtnffoifkinpmpaaMarkText
import Derived.Test.YtnffoifkinpmpaaFldTot
import Derived.Outline
import Derived.Deep.RegionWith
import Derived.RegionTactic
namespace Go.Proofs.Ytnffoifkinpmpaa.Flds
open Go Go.RowKit Mark
set_option linter.unusedVariables false
set_option maxRecDepth 1000000

def mka (k j : Nat) : List UInt8 := mt (k + j * 2)
def mkb (k j : Nat) : List UInt8 := mt (k + j * 2 + 1)
def mkl (k n : Nat) : List Fld := (List.range n).map (fun i => (mka k i, mkb k i))
theorem mkl_len (k n : Nat) : (mkl k n).length = n := by unfold mkl; simp
theorem mkl_at {k n j : Nat} (h : j < n) : (mkl k n).getD j nofld = (mka k j, mkb k j) := by unfold mkl; simp [List.getD, h]
/-- The first j places are marked. -/
def mks (l : List Fld) (k j : Nat) : List Fld := mkl k j ++ l.drop j
theorem mks_zero (l : List Fld) (k : Nat) : mks l k 0 = l := by unfold mks mkl; simp
theorem mks_len {l : List Fld} {k j : Nat} (h : j ≤ l.length) : (mks l k j).length = l.length := by unfold mks; rw [List.length_append, mkl_len, List.length_drop]; omega
theorem mks_more {l : List Fld} {k j : Nat} (h : j < l.length) : (mks l k j).set j (mka k j, mkb k j) = mks l k (j + 1) := by
  unfold mks
  rw [List.set_append_right _ _ (by rw [mkl_len]; exact Nat.le_refl _), mkl_len, Nat.sub_self, List.drop_eq_getElem_cons h, List.set_cons_zero]
  unfold mkl
  rw [List.range_succ, List.map_append, List.append_assoc]; rfl
theorem mks_all {l : List Fld} {k j : Nat} (h : j = l.length) : mks l k j = mkl k l.length := by unfold mks; subst h; simp
theorem ret_nat {a b : Nat} (h : a = b) : Ending.returned (.int .i64 (a : Int)) = .returned (.int .i64 (b : Int)) := by rw [h]

def Marked (B : Nat) (v : Value) (k n : Nat) (w : World) (e : Ending) (w' : World) : Prop := e = .returned (.int .i64 ((k + n * 2 : Nat) : Int)) ∧ Own w' B v (mkl k n) ∧ w.grownBy w' v.ownBlock
theorem grown_trans {a b c : World} {row : Option Nat} (h : a.grownBy b row) (k : b.grownBy c row) : a.grownBy c row := ⟨k.os.trans h.os, k.tape.trans h.tape, k.output.trans h.output, Nat.le_trans h.size k.size, fun i hi hr => (k.block i (Nat.lt_of_lt_of_le hi h.size) hr).trans (h.block i hi hr)⟩
theorem grown_of_below {a b : World} {row : Option Nat} (h : Below a.heap.size a b) : a.grownBy b row := ⟨h.os, h.tape, h.output, h.size, fun i hi _ => h.block i hi⟩
theorem shape_at {w : World} {B : Nat} {v : Value} {T : TypeId} {s n : Nat} {xs : List Value} (h : w.ownsRow B T s v n xs) : ∃ a cap, v = .slice a n cap ∧ (0 < n → ∃ g, a = some ⟨g, 0, none⟩) := by
  rcases h.2 with ⟨rfl, h0⟩ | ⟨g, cap, cur, rfl, _⟩
  · exact ⟨none, 0, by rw [h0], fun h' => by omega⟩
  · exact ⟨_, cap, rfl, fun _ => ⟨g, rfl⟩⟩

set_option maxHeartbeats 2000000 in
theorem mark_flds (B : Nat) (v : Value) (l : List Fld) (k : Nat) (w : World) (hown : Own w B v l) (hB : B ≤ w.heap.size) (hk : 1 ≤ k) (hn : k + l.length * 2 ≤ 100000000) :
    Calls Try.prog 54 #[v, .int .i64 (k : Int)] w (Marked B v k l.length w) := by
  obtain ⟨a, cap, rfl, ha⟩ := shape_at hown
  have HA := Lib.hid ha
  have HO := Lib.hid hown
  clear ha hown
  go_enter Try.func54, Try.ntmps54
  go_wp2
  go_loopw [1, 5] (fun q i wr => ∃ j : Nat, j ≤ l.length ∧ i = .int .i64 (j : Int) ∧ q = .int .i64 ((k + j * 2 : Nat) : Int) ∧ wr.ownsRow B 112 2 (.slice a l.length cap) l.length (fcs (mks l k j)) ∧ w.grownBy wr (Value.ownBlock (.slice a l.length cap))) (fun _ i _ => l.length - (intOf i).toNat)
  case atStart => exact ⟨0, Nat.zero_le _, rfl, rfl, by rw [mks_zero]; exact HO.out, grown_of_below (Below.refl _ _)⟩
  case round =>
    clear HO
    obtain ⟨j, hj, rfl, rfl, hown, hb⟩ := hrel
    by_cases hlt : j < l.length
    · obtain ⟨g, rfl⟩ := HA.out (by omega)
      have HB := Lib.hid hb
      have HO := Lib.hid hown
      have HM := Lib.hid (mks_more (k := k) hlt)
      have hF := fcs_len (mks l k j)
      rw [mks_len (Nat.le_of_lt hlt)] at hF
      have HF := Lib.hid hF
      have HK : Hid (k + j * 2 + 1 ≤ 100000000) := Lib.hid (by omega)
      have HG := Lib.hid (hown.lt g rfl)
      clear hb hown hF
      go_wp2_with (fail)
      go_at_call 80
      refine (mark_text (k + j * 2) wr (by omega) (by have := HK.out; omega)).mono ?_
      rintro e w1 ⟨rfl, hb1⟩
      have hr1 := row_below HO.out hb1
      obtain ⟨d1, d2⟩ := own_cell hr1 hlt
      have f1 := hr1.frozenAt (j * 2)
      have s1 := hr1.stored (j * 2) (sv (mka k j))
      have HS1 := Lib.hid s1.1
      have HB1 := Lib.hid (grown_trans (grown_trans HB.out (grown_of_below hb1)) s1.2)
      clear hb1 hr1 s1
      unfold sv at d1 d2
      rw [show mt (k + j * 2) = mka k j from rfl]
      unfold sv at HS1 HB1
      generalize hxa : mka k j = xa at HS1 HB1 HM ⊢
      have HD := Lib.hid ((fcs_at (l := mks l k j) (j := j) (by rw [mks_len (Nat.le_of_lt hlt)]; exact hlt)).2)
      unfold sv at HD
      generalize ((mks l k j).getD j nofld) = old at d1 d2 HD
      go_wp2_with (fail)
      go_at_call 80
      have c2 := mark_text (k + j * 2 + 1) (w1.setCell ⟨g, j * 2, none⟩ (.string ⟨xa.toArray⟩)) (by omega) (by have := HK.out; omega)
      rw [show ((k + j * 2 + 1 : Nat) : Int) = (k : Int) + (j : Int) * 2 + 1 by omega] at c2
      refine c2.mono ?_
      rintro e w2 ⟨rfl, hb2⟩
      have hr2 := row_below HS1.out hb2
      have e1 : w2.cell? ⟨g, j * 2 + 1, none⟩ = some (.string ⟨old.2.toArray⟩) := by
        rw [hr2.cellAt (j * 2 + 1) (by omega), List.getElem?_set_ne (by omega)]
        have h0 := HF.out
        exact HD.out
      have f2 := hr2.frozenAt (j * 2 + 1)
      have s2 := hr2.stored (j * 2 + 1) (sv (mkb k j))
      have HS2 : Hid _ := Lib.hid s2.1
      have HB2 := Lib.hid (grown_trans (grown_trans HB1.out (grown_of_below hb2)) s2.2)
      clear hb2 hr2 s2
      rw [show mt (k + j * 2 + 1) = mkb k j from rfl]
      unfold sv at HS2 HB2
      have HQ := Lib.hid (fcs_set (mks l k j) j (xa, mkb k j))
      unfold sv at HQ
      simp only at HQ
      rw [HM.out] at HQ
      generalize mkb k j = xb at HS2 HB2 HQ ⊢
      go_wp2
      go_roundw
      case rel => exact ⟨j + 1, by omega, by go_num, by go_num, by rw [← HQ.out]; exact HS2.out, HB2.out⟩
      case measure => simp [intOf]; omega
    · have HE := Lib.hid (mks_all (l := l) (k := k) (show j = l.length by omega))
      have HR := Lib.hid (show k + j * 2 = k + l.length * 2 by omega)
      have HO := Lib.hid (And.intro hown hb)
      clear hown hb
      go_wp2
      go_ret
      exact ⟨ret_nat HR.out, by show World.ownsRow _ _ _ _ _ _ _; rw [mkl_len]; rw [← HE.out]; exact HO.out.1, HO.out.2⟩

def Held (k n : Nat) (w : World) (e : Ending) (w' : World) : Prop := e = .returned (.int .i64 ((k + n * 2 : Nat) : Int)) ∧ Below w.heap.size w w'
theorem below_drew' {B : Nat} {a w : World} (h : Below B a w) : Below B a w.drew := ⟨h.os, h.tape, h.output, h.size, h.block⟩
theorem below_of_drew {B : Nat} {w w' : World} (h : Below B w.drew w') : Below B w w' := ⟨h.os, h.tape, h.output, h.size, h.block⟩
theorem held_nil (a : Option Addr) (cap k : Nat) (w : World) :
    Calls Try.prog 55 #[.slice a 0 cap, .int .i64 (k : Int)] w (Held k 0 w) := by
  go_enter Try.func55, Try.ntmps55
  go_wp2
  go_loop [1, 5] (fun q i => i = .int .i64 0 ∧ q = .int .i64 (k : Int)) (fun _ i => 0)
  case atStart => exact ⟨rfl, rfl⟩
  case round =>
    obtain ⟨rfl, rfl⟩ := hrel
    go_wp2
    go_ret
    exact ⟨rfl, Below.refl _ _⟩

set_option maxHeartbeats 2000000 in
theorem held_some (b off cap k n : Nat) (w : World) (hc : At w b off (mkl k n)) (h0 : 0 < n) (hk : 1 ≤ k) (hn : k + n * 2 ≤ 100000000) :
    Calls Try.prog 55 #[.slice (some ⟨b, off, none⟩) n cap, .int .i64 (k : Int)] w (Held k n w) := by
  have hbl := at_lt hc (by rw [mkl_len]; exact h0)
  have HC := Lib.hid hc
  clear hc
  go_enter Try.func55, Try.ntmps55
  go_wp2
  go_loopw [1, 5] (fun q i wr => ∃ j : Nat, j ≤ n ∧ i = .int .i64 (j : Int) ∧ q = .int .i64 ((k + j * 2 : Nat) : Int) ∧ Below w.heap.size w wr) (fun _ i _ => n - (intOf i).toNat)
  case atStart => exact ⟨0, Nat.zero_le _, rfl, rfl, Below.refl _ _⟩
  case round =>
    obtain ⟨j, hj, rfl, rfl, hb⟩ := hrel
    by_cases hlt : j < n
    · have hcc := at_below HC.out hb hbl j (by rw [mkl_len]; exact hlt)
      rw [mkl_at hlt] at hcc
      obtain ⟨d1, d2⟩ := hcc
      unfold sv at d1 d2
      have hcell' : wr.drew.cell? ⟨b, off + j * 2, none⟩ = some (.string ⟨(mka k j).toArray⟩) := d1
      have hbs := hb.size
      have hbx : b < wr.heap.size := Nat.lt_of_lt_of_le hbl hbs
      have HBX := Lib.hid hbx
      have HB := Lib.hid hb
      have hK : Hid (k + j * 2 + 1 ≤ 100000000) := Lib.hid (by omega)
      have c1 := mark_text (k + j * 2) wr.drew (by omega) (by omega)
      rw [show mt (k + j * 2) = mka k j from rfl] at c1
      have C2 : Hid (∀ wz : World, Calls Try.prog 80 #[.int .i64 ((k : Int) + (j : Int) * 2 + 1)] wz fun e w' => e = .returned (.string ⟨(mkb k j).toArray⟩) ∧ Below wz.heap.size wz w') := Lib.hid (fun wz => by
        have c2 := mark_text (k + j * 2 + 1) wz (by omega) (by omega)
        rw [show ((k + j * 2 + 1 : Nat) : Int) = (k : Int) + (j : Int) * 2 + 1 by omega, show mt (k + j * 2 + 1) = mkb k j from rfl] at c2
        exact c2)
      generalize mka k j = z at *
      generalize mkb k j = z2 at *
      have HD2 := Lib.hid d2
      clear hb d2
      go_wp2
      go_region_with (go_at_call 80; refine c1.mono ?_; rintro e w1 ⟨rfl, hb1⟩; have hc1 : w1.cell? ⟨b, off + j * 2, none⟩ = some (.string ⟨z.toArray⟩) := (hb1.cell (p := ⟨b, off + j * 2, none⟩) HBX.out).trans hcell'; have hd1 : w1.cell? ⟨b, off + j * 2 + 1, none⟩ = some (.string ⟨z2.toArray⟩) := (hb1.cell (p := ⟨b, off + j * 2 + 1, none⟩) HBX.out).trans HD2.out; have H1 := Lib.hid (Base.then_below HB.out (below_of_drew hb1)); have hz1 : wr.heap.size ≤ w1.heap.size := hb1.size; clear hb1)
      all_goals go_wp2
      all_goals (
        have c3 := C2.out w1.drew
        have hd2 : w1.drew.cell? ⟨b, off + j * 2 + 1, none⟩ = some (.string ⟨z2.toArray⟩) := hd1
        have hb1x : b < w1.heap.size := Nat.lt_of_lt_of_le HBX.out hz1
        have HBY := Lib.hid hb1x
        clear hc1 hcell' c1 d1
        go_region_with (go_at_call 80; refine c3.mono ?_; rintro e w2 ⟨rfl, hb2⟩; have hc2 : w2.cell? ⟨b, off + j * 2 + 1, none⟩ = some (.string ⟨z2.toArray⟩) := (hb2.cell (p := ⟨b, off + j * 2 + 1, none⟩) HBY.out).trans hd2; have H2 := Lib.hid (Base.then_below H1.out (below_of_drew hb2)); clear hb2))
      all_goals go_wp2
      all_goals go_roundw
      all_goals first | exact ⟨j + 1, by omega, by go_num, by go_num, H2.out⟩ | (simp [intOf]; omega)
    · have HR := Lib.hid (show k + j * 2 = k + n * 2 by omega)
      go_wp2
      go_ret
      exact ⟨ret_nat HR.out, hb⟩

theorem held_flds (B : Nat) (v : Value) (k n : Nat) (w : World) (h : Holds w B v (mkl k n)) (hk : 1 ≤ k) (hn : k + n * 2 ≤ 100000000) :
    Calls Try.prog 55 #[v, .int .i64 (k : Int)] w (Held k n w) := by
  rcases h with ⟨e, a, cap, rfl⟩ | ⟨h0, b, off, cap, rfl, _, _, hc⟩
  · have : n = 0 := by have := congrArg List.length e; rw [mkl_len] at this; simpa using this
    subst this
    exact held_nil a cap k w
  · rw [mkl_len] at h0 ⊢
    exact held_some b off cap k n w hc h0 hk hn
end Go.Proofs.Ytnffoifkinpmpaa.Flds
