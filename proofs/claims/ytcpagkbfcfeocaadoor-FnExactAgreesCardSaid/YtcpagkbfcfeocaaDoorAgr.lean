/-
  CONTRACTS of both sides' Agrees; nothing that was there before is changed.
-/
import Derived.Test.YtcpagkbfcfeocaaDoorSel
import Derived.Deep.RegionHeldLaw
namespace Go.Proofs.YtcpagkbfcfeocaaDoor.Sel
open Go Go.RowKit
set_option linter.unusedVariables false
def BoolEnd (b : Bool) (w : World) (e : Ending) (w' : World) : Prop := e = .returned (.bool b) ∧ Below w.heap.size w w'
theorem ret_b {a b : Bool} (h : a = b) : Ending.returned (.bool a) = .returned (.bool b) := by rw [h]
/-- Each of the fields z is the selecting field of the request's fields l. -/
def agr (l z : List Flds.Fld) : Bool := z.all (fun f => selv f.1 l == f.2)
theorem agr_no {l z : List Flds.Fld} {k : Nat} (h : k < z.length) (e : (selv (z.getD k Flds.nofld).1 l == (z.getD k Flds.nofld).2) = false) : agr l z = false := by
  have hg : z.getD k Flds.nofld = z[k] := by simp [List.getD, h]
  rw [hg] at e
  unfold agr
  rw [List.all_eq_false]
  exact ⟨z[k], List.getElem_mem h, by simpa using e⟩
theorem agr_all {l z : List Flds.Fld} (h : ∀ k, k < z.length → (selv (z.getD k Flds.nofld).1 l == (z.getD k Flds.nofld).2) = true) : agr l z = true := by
  unfold agr
  rw [List.all_eq_true]
  intro x hx
  obtain ⟨k, hk, rfl⟩ := List.getElem_of_mem hx
  have := h k hk
  have hg : z.getD k Flds.nofld = z[k] := by simp [List.getD, hk]
  rw [hg] at this; exact this

theorem spec_agr_nil (m ho t : List UInt8) (v : Value) (l : List Flds.Fld) (a : Option Addr) (cap : Nat) (w : World) :
    Calls Tryd.prog 25 #[.agg #[.string ⟨m.toArray⟩, .string ⟨ho.toArray⟩, .string ⟨t.toArray⟩, v], .slice a 0 cap] w (BoolEnd true w) := by
  have HB0 : Hid (Below w.heap.size w (w.alloc (.cells #[.string ⟨m.toArray⟩, .string ⟨ho.toArray⟩, .string ⟨t.toArray⟩, v] 39))) := Lib.hid ((Below.refl _ _).alloc (Nat.le_refl _) _)
  go_enter Tryd.func25, Tryd.ntmps25
  go_wp2
  go_loop [5] (fun i => i = .int .i64 0) (fun i => 0)
  case atStart => rfl
  case round =>
    obtain rfl := hrel
    go_wp2
    go_ret
    exact ⟨rfl, HB0.out⟩

set_option maxHeartbeats 4000000 in
set_option maxRecDepth 100000 in
theorem spec_agr_some (m ho t : List UInt8) (v : Value) (B : Nat) (l : List Flds.Fld) (b off cap : Nat) (z : List Flds.Fld) (w : World) (h : Flds.Holds w B v l) (hB : B ≤ w.heap.size) (hl : Flds.total l ≤ 1048576)
    (hc : Flds.At w b off z) (h0 : 0 < z.length) (hzl : z.length ≤ 1048576) :
    Calls Tryd.prog 25 #[.agg #[.string ⟨m.toArray⟩, .string ⟨ho.toArray⟩, .string ⟨t.toArray⟩, v], .slice (some ⟨b, off, none⟩) z.length cap] w (BoolEnd (agr l z) w) := by
  have hbl := Flds.at_lt hc h0
  have HBX : Hid (Below w.heap.size w (w.alloc (.cells #[.string ⟨m.toArray⟩, .string ⟨ho.toArray⟩, .string ⟨t.toArray⟩, v] 39))) := Lib.hid ((Below.refl _ _).alloc (Nat.le_refl _) _)
  have HQ : Hid ((w.alloc (.cells #[.string ⟨m.toArray⟩, .string ⟨ho.toArray⟩, .string ⟨t.toArray⟩, v] 39)).cell? ⟨w.heap.size, 3, none⟩ = some v) := Lib.hid (by rw [World.cell?_alloc_new]; rfl)
  have HY := Lib.hid (fun W (hb : Below w.heap.size w W) => Flds.holds_below h (hb.mono hB))
  have HG := Lib.hid (fun n W (hb : Below w.heap.size w W) => Flds.spec_lget v B l n W (HY.out W hb) (by omega))
  have HSP := Lib.hid (fun n W => Tx.spec_split ⟨(Flds.got n l).toArray⟩ W (big n hl).1)
  have HJ := Lib.hid (fun n u B W (h : Strs.Holds W B u (Tx.split (Flds.got n l))) => Tx.spec_join u B _ W h (big n hl).2)
  have HC := Lib.hid hc
  have HNO := Lib.hid (fun k (h : k < z.length) => agr_no (l := l) h)
  have HALL := Lib.hid (agr_all (l := l) (z := z))
  unfold Flds.GotEnd at HG
  unfold Tx.SplitEnd at HSP
  unfold Tx.JoinEnd at HJ
  have he : ∀ n, (⟨(Flds.got n l).toArray⟩ : ByteArray).data.toList = Flds.got n l := fun n => by simp
  simp only [he] at HSP
  clear h hc he hl
  unfold BoolEnd
  go_enter Tryd.func25, Tryd.ntmps25
  go_wp2
  go_loopw [5] (fun i wr => ∃ k : Nat, k ≤ z.length ∧ i = .int .i64 k ∧ (∀ j, j < k → (selv (z.getD j Flds.nofld).1 l == (z.getD j Flds.nofld).2) = true) ∧ Hid (wr.cell? ⟨w.heap.size, 3, none⟩ = some v) ∧ Hid (Below w.heap.size w wr)) (fun i _ => z.length - (intOf i).toNat)
  case atStart => exact ⟨0, Nat.zero_le _, rfl, fun j hj => absurd hj (by omega), HQ, HBX⟩
  case round =>
    clear HQ HBX
    obtain ⟨k, hk, rfl, hall, HQ, HB⟩ := hrel
    have HA := Lib.hid hall
    clear hall
    by_cases hlt : k < z.length
    · obtain ⟨c0, c1⟩ := Flds.at_below HC.out HB.out hbl k hlt
      have HN := Lib.hid (HNO.out k hlt)
      have HM : Hid ((selv (z.getD k Flds.nofld).1 l == (z.getD k Flds.nofld).2) = true → ∀ j, j < k + 1 → (selv (z.getD j Flds.nofld).1 l == (z.getD j Flds.nofld).2) = true) := Lib.hid (fun e j hj => by
        rcases Nat.lt_or_ge j k with h' | h'
        · exact HA.out j h'
        · have : j = k := by omega
          subst this; exact e)
      unfold Flds.sv at c0 c1
      generalize (z.getD k Flds.nofld).1 = x at c0 HN HM
      generalize (z.getD k Flds.nofld).2 = y at c1 HN HM
      have HGx := Lib.hid (HG.out x)
      have HSPx := Lib.hid (HSP.out x)
      have HJx := Lib.hid (HJ.out x)
      have hsv : Tx.join (Tx.split (Flds.got x l)) = selv x l := rfl
      rw [hsv] at HJx
      clear HG HSP HJ hsv
      generalize selv x l = r at HJx HN HM
      generalize Flds.got x l = g at HGx HSPx HJx
      generalize Tx.split g = xs at HSPx HJx
      have q0 := HQ.out
      have HSD : Hid (wr.drew.cell? ⟨w.heap.size, 3, none⟩ = some v ∧ wr.drew.cell? ⟨b, off + k * 2, none⟩ = some (.string ⟨x.toArray⟩) ∧ wr.drew.cell? ⟨b, off + k * 2 + 1, none⟩ = some (.string ⟨y.toArray⟩) ∧ Hid (Below w.heap.size w wr.drew)) := Lib.hid ⟨q0, c0, c1, Lib.hid (Rec.below_drew HB.out)⟩
      have HBD := Lib.hid (Rec.below_drew HB.out)
      have SC : Hid (∀ u u' : World, u.cell? ⟨w.heap.size, 3, none⟩ = some v → u.cell? ⟨b, off + k * 2, none⟩ = some (.string ⟨x.toArray⟩) → u.cell? ⟨b, off + k * 2 + 1, none⟩ = some (.string ⟨y.toArray⟩) → Hid (Below w.heap.size w u) → Below u.heap.size u u' → (u'.cell? ⟨w.heap.size, 3, none⟩ = some v ∧ u'.cell? ⟨b, off + k * 2, none⟩ = some (.string ⟨x.toArray⟩) ∧ u'.cell? ⟨b, off + k * 2 + 1, none⟩ = some (.string ⟨y.toArray⟩) ∧ Hid (Below w.heap.size w u'))) := Lib.hid (fun u u' a0 a1 a2 hb hg => ⟨(hg.cell (p := ⟨w.heap.size, 3, none⟩) (Rec.lt_of_cell a0)).trans a0, (hg.cell (p := ⟨b, off + k * 2, none⟩) (Rec.lt_of_cell a1)).trans a1, (hg.cell (p := ⟨b, off + k * 2 + 1, none⟩) (Rec.lt_of_cell a2)).trans a2, Lib.hid (Base.then_below hb.out hg)⟩)
      have hki : (k : Int) < (z.length : Int) := by omega
      have hki0 : (0 : Int) ≤ (k : Int) := by omega
      clear c0 c1 q0 HC HNO HALL HY HA
      cases hq : (r == y)
      all_goals
        rw [hq] at HN HM
        go_wp2_with (fail)
        go_region_held_law (fun u => u.cell? ⟨w.heap.size, 3, none⟩ = some v ∧ u.cell? ⟨b, off + k * 2, none⟩ = some (.string ⟨x.toArray⟩) ∧ u.cell? ⟨b, off + k * 2 + 1, none⟩ = some (.string ⟨y.toArray⟩) ∧ Hid (Below w.heap.size w u))
          (first | exact HSD.out | go_keep | (go_split_ands; refine SC.out _ _ ?_ ?_ ?_ ?_ hb1 <;> assumption) | (go_split_ands; refine SC.out _ _ ?_ ?_ ?_ ?_ hb2 <;> assumption) | (go_split_ands; refine SC.out _ _ ?_ ?_ ?_ ?_ hb3 <;> assumption))
          (first | (go_at_call 31; refine (HGx.out _ HBD.out).mono ?_; rintro e w1 ⟨rfl, hb1⟩) | (go_at_call 30; refine (HSPx.out _).mono ?_; rintro e w2 ⟨u2, rfl, ho2, hb2⟩) | (go_at_call 40; refine (HJx.out _ _ _ (Strs.own_holds ho2)).mono ?_; rintro e w3 ⟨rfl, hb3⟩))
      · all_goals (
          go_split_ands
          have HKB := Lib.hid (Hid.out ‹Hid (Below w.heap.size w w3)›)
          go_wp2
          go_ret
          exact ⟨ret_b (HN.out (by trivial)).symm, HKB.out⟩)
      · all_goals (
          go_split_ands
          have HKB := Lib.hid (Hid.out ‹Hid (Below w.heap.size w w3)›)
          have HKQ : Hid (w3.cell? ⟨w.heap.size, 3, none⟩ = some v) := Lib.hid (by assumption)
          go_wp2
          go_roundw
          case rel => exact ⟨k + 1, by omega, by go_num, HM.out (by trivial), HKQ, HKB⟩
          case measure => simp [intOf]; omega)
    · have HE := Lib.hid (HALL.out (fun j hj => HA.out j (by omega)))
      have hke : ¬ (k : Int) < (z.length : Int) := by omega
      go_wp2
      go_ret
      exact ⟨ret_b HE.out.symm, HB.out⟩

theorem spec_agr (m ho t : List UInt8) (v : Value) (B : Nat) (l : List Flds.Fld) (v2 : Value) (B2 : Nat) (z : List Flds.Fld) (w : World) (h : Flds.Holds w B v l) (hB : B ≤ w.heap.size) (hl : Flds.total l ≤ 1048576) (h2 : Flds.Holds w B2 v2 z) (hzl : z.length ≤ 1048576) :
    Calls Tryd.prog 25 #[.agg #[.string ⟨m.toArray⟩, .string ⟨ho.toArray⟩, .string ⟨t.toArray⟩, v], v2] w (BoolEnd (agr l z) w) := by
  rcases h2 with ⟨rfl, a, cap, rfl⟩ | ⟨h0, b, off, cap, rfl, hb, _, hc⟩
  · exact spec_agr_nil m ho t v l a cap w
  · exact spec_agr_some m ho t v B l b off cap z w h hB hl hc h0 hzl
end Go.Proofs.YtcpagkbfcfeocaaDoor.Sel
