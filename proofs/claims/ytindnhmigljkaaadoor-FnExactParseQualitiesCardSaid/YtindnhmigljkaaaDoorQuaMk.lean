/-
  CONTRACTS of the laws' markQualityS and heldQualityS (written by rec.py): the first writes marks into a slice of Quality that is one's own, the second finds them there; nothing older than that slice is changed.
-/
import Derived.Test.YtindnhmigljkaaaDoorMarkText
import Derived.Test.YtindnhmigljkaaaDoorQua
import Derived.LoopTactic
import Derived.Outline
import Derived.Deep.RegionWith
import Derived.RegionTactic
namespace Go.Proofs.YtindnhmigljkaaaDoor.Qua
open Go Go.RowKit
set_option linter.unusedVariables false
set_option maxRecDepth 1000000

def mkq (q : Int) : T := (Mark.mtI (q), q + 1)
def mkf (k j : Nat) : T := mkq ((k + j * 2 : Nat) : Int)
abbrev mkl (k n : Nat) : List T := Rec.mkl (mkf k) n
theorem mkl_len (k n : Nat) : (mkl k n).length = n := Rec.mkl_len _ n
def Marked (B : Nat) (v : Value) (k n : Nat) (w : World) (e : Ending) (w' : World) : Prop := e = .returned (.int .i64 ((k + n * 2 : Nat) : Int)) ∧ Own w' B v (mkl k n) ∧ w.grownBy w' v.ownBlock

set_option maxHeartbeats 2000000 in
theorem mark (B : Nat) (v : Value) (l : List T) (k : Nat) (w : World) (hown : Own w B v l) (hB : B ≤ w.heap.size) (hk : 1 ≤ k) (hn : k + l.length * 2 ≤ 100000000) :
    Calls Tryd.prog 8 #[v, .int .i64 (k : Int)] w (Marked B v k l.length w) := by
  obtain ⟨a, cap, rfl, ha⟩ := Rec.shape_at hown
  have HA := Lib.hid ha
  have HO := Lib.hid hown
  clear ha hown
  go_enter Tryd.func8, Tryd.ntmps8
  go_wp2
  go_loopw [1, 5] (fun q i wr => ∃ j : Nat, j ≤ l.length ∧ i = .int .i64 (j : Int) ∧ q = .int .i64 ((k + j * 2 : Nat) : Int) ∧ wr.ownsRow B 37 2 (.slice a l.length cap) l.length (fcs (Rec.mks (mkf k) l j)) ∧ w.grownBy wr (Value.ownBlock (.slice a l.length cap))) (fun _ i _ => l.length - (intOf i).toNat)
  case atStart => exact ⟨0, Nat.zero_le _, rfl, rfl, by rw [Rec.mks_zero]; exact HO.out, Rec.grown_of_below (Below.refl _ _)⟩
  case round =>
    clear HO
    obtain ⟨j, hj, rfl, rfl, hown, hb⟩ := hrel
    by_cases hlt : j < l.length
    · obtain ⟨g, rfl⟩ := HA.out (by omega)
      obtain ⟨q, hq⟩ : ∃ q : Int, q = ((k + j * 2 : Nat) : Int) := ⟨_, rfl⟩
      have q1 : 1 ≤ q := by omega
      have q2 : q + 2 ≤ 100000000 := by omega
      rw [← hq]
      have HX : Hid (mkf k j = (Mark.mtI (q), q + 1)) := Lib.hid (by unfold mkf mkq; rw [← hq])
      have HQ := Lib.hid hq
      have HM := Lib.hid (Rec.mks_more (mkf k) hlt)
      have HE := Lib.hid (fcs_put (l := Rec.mks (mkf k) l j) (mkf k j) (by rw [Rec.mks_len _ (Nat.le_of_lt hlt)]; exact hlt))
      have HO := Lib.hid hown
      have HB := Lib.hid hb
      obtain ⟨d0, d1⟩ := own_cells hown hlt
      have HL := Lib.hid (fcs_len (Rec.mks (mkf k) l j))
      have HN := Lib.hid (Rec.mks_len (mkf k) (Nat.le_of_lt hlt))
      clear hq hown hb
      rw [HM.out, HX.out] at HE
      dsimp only at HE
      generalize (Rec.mks (mkf k) l j).getD j nov = old at d0 d1
      generalize hm0 : Mark.mtI (q) = m0 at HE
      have HC : Hid (wr.cell? ⟨g, j * 2, none⟩ = some (.string ⟨(old.1).toArray⟩) ∧ wr.cell? ⟨g, j * 2 + 1, none⟩ = some (.int .i64 (old.2))) := Lib.hid ⟨d0, d1⟩
      have f0 := HO.out.frozenAt (j * 2)
      have f1 := HO.out.frozenAt (j * 2 + 1)
      go_wp2_with (fail)
      go_at_call 25
      have HO1 := Lib.hid (HO.out)
      have HG1 := Lib.hid (HB.out)
      have mc := Mark.mark_int (q) wr (by omega) (by omega)
      rw [hm0] at mc
      refine mc.mono ?_
      clear mc
      rintro e w1 ⟨rfl, hb1⟩
      have HO1 := Lib.hid (row_below HO1.out hb1)
      have HG1 := Lib.hid (Rec.grown_trans HG1.out (Rec.grown_of_below hb1))
      have d0' : w1.cell? ⟨g, j * 2, none⟩ = some (.string ⟨(old.1).toArray⟩) := by
        have h9 := HO.out.cellAt (j * 2) (by omega)
        have h8 := HC.out.1
        rw [h9] at h8
        rw [HO1.out.cellAt (j * 2) (by omega)]; exact h8
      have f0 := HO1.out.frozenAt (j * 2)
      have d1' : w1.cell? ⟨g, j * 2 + 1, none⟩ = some (.int .i64 (old.2)) := by
        have h9 := HO.out.cellAt (j * 2 + 1) (by omega)
        have h8 := HC.out.2
        rw [h9] at h8
        rw [HO1.out.cellAt (j * 2 + 1) (by omega)]; exact h8
      have f1 := HO1.out.frozenAt (j * 2 + 1)
      clear hb1
      have t0 := HO1.out.stored (j * 2) (.string ⟨(m0).toArray⟩)
      have t1 := t0.1.stored (j * 2 + 1) (.int .i64 (q + 1))
      have HZ := Lib.hid t1.1
      rw [HE.out] at HZ
      have HY := Lib.hid (Rec.grown_trans (Rec.grown_trans HG1.out t0.2) t1.2)
      clear t0 t1
      go_wp2
      go_roundw
      case rel => exact ⟨j + 1, by omega, by go_num, by rw [HQ.out]; go_num, HZ.out, HY.out⟩
      case measure => simp [intOf]; omega
    · have HE := Lib.hid (Rec.mks_all (mkf k) (l := l) (show j = l.length by omega))
      have HR := Lib.hid (show k + j * 2 = k + l.length * 2 by omega)
      have HO := Lib.hid (And.intro hown hb)
      clear hown hb
      go_wp2
      go_ret
      exact ⟨Rec.ret_nat HR.out, by have h := HO.out.1; rw [HE.out] at h; show World.ownsRow _ _ _ _ _ _ _; rw [mkl_len]; exact h, HO.out.2⟩

def Held (k n : Nat) (w : World) (e : Ending) (w' : World) : Prop := e = .returned (.int .i64 ((k + n * 2 : Nat) : Int)) ∧ Below w.heap.size w w'
theorem held_nil (a : Option Addr) (cap k : Nat) (w : World) :
    Calls Tryd.prog 9 #[.slice a 0 cap, .int .i64 (k : Int)] w (Held k 0 w) := by
  go_enter Tryd.func9, Tryd.ntmps9
  go_wp2
  go_loop [1, 5] (fun q i => i = .int .i64 0 ∧ q = .int .i64 (k : Int)) (fun _ i => 0)
  case atStart => exact ⟨rfl, rfl⟩
  case round =>
    obtain ⟨rfl, rfl⟩ := hrel
    go_wp2
    go_ret
    exact ⟨rfl, Below.refl _ _⟩

set_option maxHeartbeats 2000000 in
theorem held_some (b off cap k n : Nat) (w : World) (hc : At w b off (mkl k n)) (h0 : 0 < n) (hk : 1 ≤ k) (hn : k + n * 2 ≤ 100000000) :
    Calls Tryd.prog 9 #[.slice (some ⟨b, off, none⟩) n cap, .int .i64 (k : Int)] w (Held k n w) := by
  have hbl := at_lt hc (by rw [mkl_len]; exact h0)
  have HC := Lib.hid hc
  clear hc
  go_enter Tryd.func9, Tryd.ntmps9
  go_wp2
  go_loopw [1, 5] (fun q i wr => ∃ j : Nat, j ≤ n ∧ i = .int .i64 (j : Int) ∧ q = .int .i64 ((k + j * 2 : Nat) : Int) ∧ Below w.heap.size w wr) (fun _ i _ => n - (intOf i).toNat)
  case atStart => exact ⟨0, Nat.zero_le _, rfl, rfl, Below.refl _ _⟩
  case round =>
    obtain ⟨j, hj, rfl, rfl, hb⟩ := hrel
    by_cases hlt : j < n
    · skip
      obtain ⟨q, hq⟩ : ∃ q : Int, q = ((k + j * 2 : Nat) : Int) := ⟨_, rfl⟩
      have q1 : 1 ≤ q := by omega
      have q2 : q + 2 ≤ 100000000 := by omega
      rw [← hq]
      have hcc := at_cells (at_below HC.out hb hbl) (j := j) (by rw [mkl_len]; exact hlt)
      rw [Rec.mkl_at (mkf k) hlt] at hcc
      unfold mkf mkq at hcc
      rw [← hq] at hcc
      dsimp only at hcc
      obtain ⟨d0, d1⟩ := hcc
      have HQ := Lib.hid hq
      clear hq
      have HBX : Hid (b < wr.heap.size) := Lib.hid (Nat.lt_of_lt_of_le hbl hb.size)
      have HB0 := Lib.hid hb
      clear hb
      generalize hm0 : Mark.mtI (q) = m0 at d0
      have HM0 := Lib.hid hm0
      clear hm0
      have D0_0 := Lib.hid d0
      clear d0
      have D1_0 := Lib.hid d1
      clear d1
      go_wp2
      have mc := fun (W : World) => Mark.mark_int (q) W (by omega) (by omega)
      rw [HM0.out] at mc
      have l0 : wr.drew.cell? ⟨b, off + j * 2, none⟩ = some (.string ⟨(m0).toArray⟩) := D0_0.out
      go_region_with (go_at_call 25; refine (mc _).mono ?_; rintro e w1 ⟨rfl, hb1⟩; have r0 : w1.cell? ⟨b, off + j * 2, none⟩ = some (.string ⟨(m0).toArray⟩) := (hb1.cell (p := ⟨b, off + j * 2, none⟩) HBX.out).trans l0; have D1_1 : Hid (w1.cell? ⟨b, off + j * 2 + 1, none⟩ = some (.int .i64 (q + 1))) := Lib.hid ((hb1.cell (p := ⟨b, off + j * 2 + 1, none⟩) HBX.out).trans D1_0.out); have HB1 := Lib.hid (Base.then_below HB0.out (Rec.below_of_drew hb1)); have HBX := Lib.hid (Nat.lt_of_lt_of_le HBX.out (show wr.heap.size ≤ w1.heap.size from hb1.size)); clear hb1)
      all_goals have l1 := D1_1.out
      all_goals go_wp2
      all_goals go_roundw
      all_goals first | exact ⟨j + 1, by omega, by go_num, by rw [HQ.out]; go_num, HB1.out⟩ | (simp [intOf]; omega)
    · have HR := Lib.hid (show k + j * 2 = k + n * 2 by omega)
      go_wp2
      go_ret
      exact ⟨Rec.ret_nat HR.out, hb⟩

theorem held (B : Nat) (v : Value) (k n : Nat) (w : World) (h : Holds w B v (mkl k n)) (hk : 1 ≤ k) (hn : k + n * 2 ≤ 100000000) :
    Calls Tryd.prog 9 #[v, .int .i64 (k : Int)] w (Held k n w) := by
  rcases h with ⟨e, a, cap, rfl⟩ | ⟨h0, b, off, cap, rfl, _, _, hc⟩
  · have : n = 0 := by have := congrArg List.length e; rw [mkl_len] at this; simpa using this
    subst this
    exact held_nil a cap k w
  · rw [mkl_len] at h0 ⊢
    exact held_some b off cap k n w hc h0 hk hn
end Go.Proofs.YtindnhmigljkaaaDoor.Qua
