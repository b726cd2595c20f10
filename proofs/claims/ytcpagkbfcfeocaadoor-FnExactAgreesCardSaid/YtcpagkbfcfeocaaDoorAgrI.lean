/-
  CONTRACT of the program's Agrees; nothing that was there before is changed.
-/
import Derived.Test.YtcpagkbfcfeocaaDoorAgr
namespace Go.Proofs.YtcpagkbfcfeocaaDoor.Sel
open Go Go.RowKit
set_option linter.unusedVariables false
/-- The request's box. -/
def Bx (w : World) (m ho t : List UInt8) (v : Value) (u : World) : Prop := (u.cell? ⟨w.heap.size, 0, none⟩ = some (.string ⟨m.toArray⟩) ∧ u.cell? ⟨w.heap.size, 1, none⟩ = some (.string ⟨ho.toArray⟩) ∧ u.cell? ⟨w.heap.size, 2, none⟩ = some (.string ⟨t.toArray⟩) ∧ u.cell? ⟨w.heap.size, 3, none⟩ = some v) ∧ Below w.heap.size w u
theorem bx_start (w : World) (m ho t : List UInt8) (v : Value) (T : TypeId) : Bx w m ho t v (w.alloc (.cells #[.string ⟨m.toArray⟩, .string ⟨ho.toArray⟩, .string ⟨t.toArray⟩, v] T)) := by
  refine ⟨⟨?_, ?_, ?_, ?_⟩, (Below.refl _ _).alloc (Nat.le_refl _) _⟩
  all_goals (rw [World.cell?_alloc_new]; rfl)
theorem bx_below {w u u' : World} {m ho t : List UInt8} {v : Value} (h : Bx w m ho t v u) (hb : Below u.heap.size u u') : Bx w m ho t v u' := by
  obtain ⟨⟨a0, a1, a2, a3⟩, hB⟩ := h
  have hl := Rec.lt_of_cell a0
  exact ⟨⟨(hb.cell (p := ⟨w.heap.size, 0, none⟩) hl).trans a0, (hb.cell (p := ⟨w.heap.size, 1, none⟩) hl).trans a1, (hb.cell (p := ⟨w.heap.size, 2, none⟩) hl).trans a2, (hb.cell (p := ⟨w.heap.size, 3, none⟩) hl).trans a3⟩, Base.then_below hB hb⟩

theorem impl_agr_nil (m ho t : List UInt8) (v : Value) (l : List Flds.Fld) (a : Option Addr) (cap : Nat) (w : World) :
    Calls Tryd.prog 26 #[.agg #[.string ⟨m.toArray⟩, .string ⟨ho.toArray⟩, .string ⟨t.toArray⟩, v], .slice a 0 cap] w (BoolEnd true w) := by
  have HB0 : Hid (Below w.heap.size w (w.alloc (.cells #[.string ⟨m.toArray⟩, .string ⟨ho.toArray⟩, .string ⟨t.toArray⟩, v] 39))) := Lib.hid ((Below.refl _ _).alloc (Nat.le_refl _) _)
  go_enter Tryd.func26, Tryd.ntmps26
  go_wp2
  go_loop [9] (fun i => i = .int .i64 0) (fun i => 0)
  case atStart => rfl
  case round =>
    obtain rfl := hrel
    go_wp2
    go_ret
    exact ⟨rfl, HB0.out⟩

set_option maxHeartbeats 4000000 in
set_option maxRecDepth 100000 in
theorem impl_agr_some (m ho t : List UInt8) (v : Value) (B : Nat) (l : List Flds.Fld) (b off cap : Nat) (z : List Flds.Fld) (w : World) (h : Flds.Holds w B v l) (hB : B ≤ w.heap.size) (hl : Flds.total l ≤ 1048576)
    (hc : Flds.At w b off z) (h0 : 0 < z.length) (hzl : z.length ≤ 1048576) :
    Calls Tryd.prog 26 #[.agg #[.string ⟨m.toArray⟩, .string ⟨ho.toArray⟩, .string ⟨t.toArray⟩, v], .slice (some ⟨b, off, none⟩) z.length cap] w (BoolEnd (agr l z) w) := by
  have hbl := Flds.at_lt hc h0
  have HX0 := Lib.hid (bx_start w m ho t v 39)
  have HG := Lib.hid (fun n W (hb : Below w.heap.size w W) => impl_selv m ho t v B l n W (Flds.holds_below h (hb.mono hB)) (Nat.le_trans hB hb.size) hl)
  have HC := Lib.hid hc
  have HNO := Lib.hid (fun k (h : k < z.length) => agr_no (l := l) h)
  have HALL := Lib.hid (agr_all (l := l) (z := z))
  unfold TxtEnd at HG
  clear h hc hl
  unfold BoolEnd
  go_enter Tryd.func26, Tryd.ntmps26
  go_wp2
  go_loopw [9] (fun i wr => ∃ k : Nat, k ≤ z.length ∧ i = .int .i64 k ∧ (∀ j, j < k → (selv (z.getD j Flds.nofld).1 l == (z.getD j Flds.nofld).2) = true) ∧ Hid (Bx w m ho t v wr)) (fun i _ => z.length - (intOf i).toNat)
  case atStart => exact ⟨0, Nat.zero_le _, rfl, fun j hj => absurd hj (by omega), HX0⟩
  case round =>
    clear HX0
    obtain ⟨k, hk, rfl, hall, HX⟩ := hrel
    have HA := Lib.hid hall
    clear hall
    by_cases hlt : k < z.length
    · obtain ⟨c0, c1⟩ := Flds.at_below HC.out HX.out.2 hbl k hlt
      have HN := Lib.hid (HNO.out k hlt)
      have HM : Hid ((selv (z.getD k Flds.nofld).1 l == (z.getD k Flds.nofld).2) = true → ∀ j, j < k + 1 → (selv (z.getD j Flds.nofld).1 l == (z.getD j Flds.nofld).2) = true) := Lib.hid (fun e j hj => by
        rcases Nat.lt_or_ge j k with h' | h'
        · exact HA.out j h'
        · have : j = k := by omega
          subst this; exact e)
      unfold Flds.sv at c0 c1
      generalize (z.getD k Flds.nofld).1 = x at c0 HN HM
      generalize (z.getD k Flds.nofld).2 = y at c1 HN HM
      have HGx := Lib.hid (HG.out x)
      clear HG
      generalize selv x l = r at HGx HN HM
      have hki : (k : Int) < (z.length : Int) := by omega
      have hki0 : (0 : Int) ≤ (k : Int) := by omega
      have HXA : Hid (Bx w m ho t v (wr.alloc (.cells #[.string ⟨x.toArray⟩, .string ⟨y.toArray⟩] 55)).drew) := Lib.hid (by
        obtain ⟨q, hB⟩ := bx_below HX.out ((Below.refl wr.heap.size wr).alloc (Nat.le_refl _) (.cells #[.string ⟨x.toArray⟩, .string ⟨y.toArray⟩] 55))
        exact ⟨q, Rec.below_drew hB⟩)
      have HF : Hid ((wr.alloc (.cells #[.string ⟨x.toArray⟩, .string ⟨y.toArray⟩] 55)).drew.cell? ⟨wr.heap.size, 0, none⟩ = some (.string ⟨x.toArray⟩) ∧ (wr.alloc (.cells #[.string ⟨x.toArray⟩, .string ⟨y.toArray⟩] 55)).drew.cell? ⟨wr.heap.size, 1, none⟩ = some (.string ⟨y.toArray⟩)) := Lib.hid ⟨by show (wr.alloc _).cell? _ = _; rw [World.cell?_alloc_new]; rfl, by show (wr.alloc _).cell? _ = _; rw [World.cell?_alloc_new]; rfl⟩
      have SC : Hid (∀ u u' : World, (u.cell? ⟨w.heap.size, 0, none⟩ = some (.string ⟨m.toArray⟩) ∧ u.cell? ⟨w.heap.size, 1, none⟩ = some (.string ⟨ho.toArray⟩) ∧ u.cell? ⟨w.heap.size, 2, none⟩ = some (.string ⟨t.toArray⟩) ∧ u.cell? ⟨w.heap.size, 3, none⟩ = some v ∧ u.cell? ⟨wr.heap.size, 0, none⟩ = some (.string ⟨x.toArray⟩) ∧ u.cell? ⟨wr.heap.size, 1, none⟩ = some (.string ⟨y.toArray⟩) ∧ Hid (Below w.heap.size w u)) → Below u.heap.size u u' → (u'.cell? ⟨w.heap.size, 0, none⟩ = some (.string ⟨m.toArray⟩) ∧ u'.cell? ⟨w.heap.size, 1, none⟩ = some (.string ⟨ho.toArray⟩) ∧ u'.cell? ⟨w.heap.size, 2, none⟩ = some (.string ⟨t.toArray⟩) ∧ u'.cell? ⟨w.heap.size, 3, none⟩ = some v ∧ u'.cell? ⟨wr.heap.size, 0, none⟩ = some (.string ⟨x.toArray⟩) ∧ u'.cell? ⟨wr.heap.size, 1, none⟩ = some (.string ⟨y.toArray⟩) ∧ Hid (Below w.heap.size w u'))) := Lib.hid (fun u u' ⟨a0, a1, a2, a3, a4, a5, hb⟩ hg => by
        have hl := Rec.lt_of_cell a0
        have hl2 := Rec.lt_of_cell a4
        exact ⟨(hg.cell (p := ⟨w.heap.size, 0, none⟩) hl).trans a0, (hg.cell (p := ⟨w.heap.size, 1, none⟩) hl).trans a1, (hg.cell (p := ⟨w.heap.size, 2, none⟩) hl).trans a2, (hg.cell (p := ⟨w.heap.size, 3, none⟩) hl).trans a3, (hg.cell (p := ⟨wr.heap.size, 0, none⟩) hl2).trans a4, (hg.cell (p := ⟨wr.heap.size, 1, none⟩) hl2).trans a5, Lib.hid (Base.then_below hb.out hg)⟩)
      have HSD := Lib.hid (show _ ∧ _ ∧ _ ∧ _ ∧ _ ∧ _ ∧ _ from ⟨HXA.out.1.1, HXA.out.1.2.1, HXA.out.1.2.2.1, HXA.out.1.2.2.2, HF.out.1, HF.out.2, Lib.hid HXA.out.2⟩)
      clear HC HNO HALL HA
      cases hq : (r == y)
      all_goals
        rw [hq] at HN HM
        go_wp2_with (fail)
        go_region_held_law (fun u => u.cell? ⟨w.heap.size, 0, none⟩ = some (.string ⟨m.toArray⟩) ∧ u.cell? ⟨w.heap.size, 1, none⟩ = some (.string ⟨ho.toArray⟩) ∧ u.cell? ⟨w.heap.size, 2, none⟩ = some (.string ⟨t.toArray⟩) ∧ u.cell? ⟨w.heap.size, 3, none⟩ = some v ∧ u.cell? ⟨wr.heap.size, 0, none⟩ = some (.string ⟨x.toArray⟩) ∧ u.cell? ⟨wr.heap.size, 1, none⟩ = some (.string ⟨y.toArray⟩) ∧ Hid (Below w.heap.size w u))
          (first | exact HSD.out | go_keep | exact SC.out _ _ (by assumption) hb1 | (exact SC.out _ _ HSD.out hb1))
          (first | (go_at_call 41; refine (HGx.out _ HXA.out.2).mono ?_; rintro e w1 ⟨rfl, hb1⟩))
      · all_goals (
          have HSE := SC.out _ _ HSD.out hb1
          have HKB := Lib.hid HSE.2.2.2.2.2.2.out
          clear HSE
          go_wp2
          go_ret
          exact ⟨ret_b (HN.out (by trivial)).symm, HKB.out⟩)
      · all_goals (
          have HKX : Hid (Bx w m ho t v w1) := Lib.hid (bx_below HXA.out hb1)
          clear hb1
          go_wp2
          go_roundw
          case rel => exact ⟨k + 1, by omega, by go_num, HM.out (by trivial), HKX⟩
          case measure => simp [intOf]; omega)
    · have HE := Lib.hid (HALL.out (fun j hj => HA.out j (by omega)))
      have hke : ¬ (k : Int) < (z.length : Int) := by omega
      go_wp2
      go_ret
      exact ⟨ret_b HE.out.symm, HX.out.2⟩

theorem impl_agr (m ho t : List UInt8) (v : Value) (B : Nat) (l : List Flds.Fld) (v2 : Value) (B2 : Nat) (z : List Flds.Fld) (w : World) (h : Flds.Holds w B v l) (hB : B ≤ w.heap.size) (hl : Flds.total l ≤ 1048576) (h2 : Flds.Holds w B2 v2 z) (hzl : z.length ≤ 1048576) :
    Calls Tryd.prog 26 #[.agg #[.string ⟨m.toArray⟩, .string ⟨ho.toArray⟩, .string ⟨t.toArray⟩, v], v2] w (BoolEnd (agr l z) w) := by
  rcases h2 with ⟨rfl, a, cap, rfl⟩ | ⟨h0, b, off, cap, rfl, hb, _, hc⟩
  · exact impl_agr_nil m ho t v l a cap w
  · exact impl_agr_some m ho t v B l b off cap z w h hB hl hc h0 hzl
end Go.Proofs.YtcpagkbfcfeocaaDoor.Sel
