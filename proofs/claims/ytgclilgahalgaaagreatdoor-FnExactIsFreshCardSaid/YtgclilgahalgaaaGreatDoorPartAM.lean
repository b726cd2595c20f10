/-
  CONTRACTS AND PLAIN FACTS, several texts in one; each says in its own words what it proves.
-/
import Derived.Test.YtgclilgahalgaaaGreatDoorPartAL
import Derived.Test.YtgclilgahalgaaaGreatDoorPartAB
import Derived.Test.YtgclilgahalgaaaGreatDoorPartD
import Derived.Test.YtgclilgahalgaaaGreatDoorPartAA

/-
  CONTRACTS of the program's expiryOf and LifetimeOf; nothing that was there before is changed.
-/
namespace Go.Proofs.YtgclilgahalgaaaGreatDoor.Lif
open Go Go.RowKit
set_option linter.unusedVariables false
set_option maxRecDepth 1000000

def TB (a : Int) : Prop := 0 ≤ a ∧ a ≤ 4102444799
/-- The way in which an answer expires, and what that says of its lifetime z. -/
def Way (z : Int) (x : Value) : Prop :=
  (∃ s : Int, x = .iface 69 (.agg #[.int .i64 s]) ∧ z = s) ∨
  (∃ d e : Int, x = .iface 71 (.agg #[.int .i64 d, .int .i64 e]) ∧ TB d ∧ TB e ∧ z = max 0 (e - d)) ∨
  (∃ m d : Int, x = .iface 73 (.agg #[.int .i64 m, .int .i64 d]) ∧ TB m ∧ TB d ∧ z = max 0 (min 86400 ((d - m).tdiv 10))) ∨
  (x = Value.nilIface ∧ z = 0)
def WayEnd (z : Int) (w : World) (e : Ending) (w' : World) : Prop := ∃ x, e = .returned x ∧ Way z x ∧ Below w.heap.size w w'

set_option maxHeartbeats 4000000 in
theorem impl_expiry (c : Int) (v : Value) (B : Nat) (l : List Flds.Fld) (b : List UInt8) (w : World) (h : Flds.Holds w B v l) (hB : B ≤ w.heap.size) (hl : Flds.total l ≤ 1048576) (ht : Age.Tabs w) (hv : Dir.Errs w) :
    Calls Tryz.prog 43 #[.agg #[.int .i64 c, v, .string ⟨b.toArray⟩]] w (WayEnd (life c l) w) := by
  have HB0 : Hid (Below w.heap.size w (w.alloc (.cells #[.int .i64 c, v, .string ⟨b.toArray⟩] 29))) := Lib.hid ((Below.refl _ _).alloc (Nat.le_refl _) _)
  have HK := Lib.hid (fun w1 => Age.kept3 (w := w) (w1 := w1) (T := 29) (a := .int .i64 c) (b := v) (c := .string ⟨b.toArray⟩))
  have HR := Lib.hid (impl_rules v B l _ (Flds.holds_below h (HB0.out.mono hB)) (Nat.le_trans hB HB0.out.size) hl (Dir.errs_below hv HB0.out))
  have HS := Lib.hid (fun n u (W W' : World) (ho : Dir.Own W w.heap.size u (rules l)) (hb : Below W.heap.size W W') => Dir.impl_sec u _ (rules l) n W' (Dir.holds_below (Dir.own_holds ho) hb) hb.size (rules_len hl) (rules_mem hl))
  have HD := Lib.hid (fun n W (hb : Below w.heap.size w W) => Age.impl_din v B l n W (Flds.holds_below h (hb.mono hB)) (Nat.le_trans hB hb.size) hl (Age.tabs_below ht hb))
  have HH := Lib.hid (fun W (hb : Below w.heap.size w W) => Flds.impl_has v B l exN W (Flds.holds_below h (hb.mono hB)) (Nat.le_trans hB hb.size) (Nat.le_trans (by unfold Flds.total; omega) hl))
  have hhv : decide (0 < (Flds.vals exN l).length) = Flds.has l exN := Flds.has_vals l exN
  have HL : Hid (life c l = if (Dir.sof smN (rules l)).2 = true then (Dir.sof smN (rules l)).1
    else if (Dir.sof maN (rules l)).2 = true then (Dir.sof maN (rules l)).1
    else if 0 < (Flds.vals exN l).length then (if (Age.din exN l).2 = true ∧ (Age.din Age.dateN l).2 = true then max 0 ((Age.din exN l).1 - (Age.din Age.dateN l).1) else 0)
    else if c = 200 ∧ (Age.din Age.dateN l).2 = true ∧ (Age.din Rgh.modN l).2 = true then max 0 (min 86400 (((Age.din Age.dateN l).1 - (Age.din Rgh.modN l).1).tdiv 10)) else 0) := Lib.hid rfl
  unfold Dir.SecEnd at HS
  unfold Age.PairEnd at HD
  unfold RulesEnd at HR
  unfold WayEnd
  have HSS := Lib.hid (HS.out smN)
  have HSM := Lib.hid (HS.out maN)
  have HDD := Lib.hid (HD.out Age.dateN)
  have HDM := Lib.hid (HD.out Rgh.modN)
  have HDE := Lib.hid (HD.out exN)
  have dbd := Age.din_bd Age.dateN l
  have mbd := Age.din_bd Rgh.modN l
  have ebd := Age.din_bd exN l
  have HVQ : Hid (0 < (Flds.vals exN l).length ↔ Flds.has l exN = true) := Lib.hid (by rw [← hhv]; simp)
  simp only [HVQ.out] at HL
  clear h hl HS HD ht hv hhv HVQ
  generalize life c l = z at HL ⊢
  generalize rules l = rs at HR HSS HSM HL
  generalize Dir.sof smN rs = s1 at HSS HL
  generalize Dir.sof maN rs = s2 at HSM HL
  generalize Age.din Age.dateN l = dd at HDD HL dbd
  generalize Age.din Rgh.modN l = dm at HDM HL mbd
  generalize Age.din exN l = de at HDE HL ebd
  generalize Flds.has l exN = vq at HH HL
  obtain ⟨s1, k1⟩ := s1
  obtain ⟨s2, k2⟩ := s2
  obtain ⟨dd, kd⟩ := dd
  obtain ⟨dm, km⟩ := dm
  obtain ⟨de, ke⟩ := de
  simp only at HSS HSM HDD HDM HDE HL dbd mbd ebd
  have HDB := Lib.hid dbd
  have HMB := Lib.hid mbd
  have HEB := Lib.hid ebd
  clear dbd mbd ebd
  unfold smN at HSS
  unfold maN at HSM
  unfold Age.dateN at HDD
  unfold Rgh.modN at HDM
  unfold exN at HDE HH
  go_enter Tryz.func43, Tryz.ntmps43
  go_wp2_with (fail)
  go_at_call 66
  refine HR.out.mono ?_
  rintro e w1 ⟨u, rfl, ho, hb1⟩
  obtain ⟨⟨x0, x1, x2⟩, hbw⟩ := HK.out _ hb1
  have HB1 := Lib.hid hbw
  have HO : Hid (Dir.Own w1 w.heap.size u rs) := Lib.hid (Dir.own_mono ho (by rw [World.size_alloc]; omega))
  have HXA := Lib.hid hb1
  clear hb1 hbw ho x0 x1 x2 HR
  go_wp2
  go_loopw [5, 6, 7, 19] (fun _ _ _ i wr => ∃ j : Nat, j ≤ 2 ∧ i = .int .i64 j ∧ (1 ≤ j → k1 = false) ∧ (2 ≤ j → k2 = false) ∧ (wr.cell? ⟨w1.heap.size, 0, none⟩ = some (.string ⟨#[115, 45, 109, 97, 120, 97, 103, 101]⟩) ∧ wr.cell? ⟨w1.heap.size, 1, none⟩ = some (.string ⟨#[109, 97, 120, 45, 97, 103, 101]⟩)) ∧ Hid (Below w1.heap.size w1 wr)) (fun _ _ _ i _ => 2 - (intOf i).toNat)
  case atStart => exact ⟨0, by omega, rfl, fun h => absurd h (by omega), fun h => absurd h (by omega), ⟨by rw [World.cell?_alloc_new]; rfl, by rw [World.cell?_alloc_new]; rfl⟩, Lib.hid ((Below.refl _ _).alloc (Nat.le_refl _) _)⟩
  case round =>
    obtain ⟨j, hj, rfl, hk1, hk2, ⟨y0, y1⟩, HBR⟩ := hrel
    have HK1 := Lib.hid hk1
    have HK2 := Lib.hid hk2
    clear hk1 hk2
    have hjc : j = 0 ∨ j = 1 ∨ j = 2 := by omega
    rcases hjc with rfl | rfl | rfl
    · go_wp2_with (fail)
      go_at_call 67
      refine (HSS.out u _ _ HO.out HBR.out).mono ?_
      rintro e w2 ⟨rfl, hb2⟩
      have HB2 := Lib.hid (Base.then_below HBR.out hb2)
      have y0' := (hb2.cell (p := ⟨w1.heap.size, 0, none⟩) (Rec.lt_of_cell y0)).trans y0
      have y1' := (hb2.cell (p := ⟨w1.heap.size, 1, none⟩) (Rec.lt_of_cell y1)).trans y1
      clear hb2 y0 y1 HSS
      cases k1 with
      | true =>
        have HZ : Hid (z = s1) := Lib.hid (by rw [HL.out]; rfl)
        go_wp2
        go_ret
        exact ⟨_, rfl, Or.inl ⟨s1, rfl, HZ.out⟩, Base.then_below HB1.out HB2.out⟩
      | false =>
        go_wp2
        go_roundw
        case rel => exact ⟨1, by omega, rfl, fun _ => by trivial, fun h => absurd h (by omega), ⟨y0', y1'⟩, HB2⟩
        case measure => decide
    · go_wp2_with (fail)
      go_at_call 67
      refine (HSM.out u _ _ HO.out HBR.out).mono ?_
      rintro e w2 ⟨rfl, hb2⟩
      have HB2 := Lib.hid (Base.then_below HBR.out hb2)
      have y0' := (hb2.cell (p := ⟨w1.heap.size, 0, none⟩) (Rec.lt_of_cell y0)).trans y0
      have y1' := (hb2.cell (p := ⟨w1.heap.size, 1, none⟩) (Rec.lt_of_cell y1)).trans y1
      have hk := HK1.out (by omega)
      subst hk
      simp only [Bool.false_eq_true, if_false] at HL
      clear hb2 y0 y1 HSM
      cases k2 with
      | true =>
        have HZ : Hid (z = s2) := Lib.hid (by rw [HL.out]; rfl)
        go_wp2
        go_ret
        exact ⟨_, rfl, Or.inl ⟨s2, rfl, HZ.out⟩, Base.then_below HB1.out HB2.out⟩
      | false =>
        go_wp2
        go_roundw
        case rel => exact ⟨2, by omega, rfl, fun _ => by trivial, fun _ => by trivial, ⟨y0', y1'⟩, HB2⟩
        case measure => decide
    · have hk := HK1.out (by omega)
      subst hk
      have hk2 := HK2.out (by omega)
      subst hk2
      simp only [Bool.false_eq_true, if_false] at HL
      have HB3 := Lib.hid (Base.then_below HB1.out HBR.out)
      have HXC := Lib.hid (Base.then_below HXA.out HBR.out)
      obtain ⟨⟨x0, x1, x2⟩, _⟩ := HK.out _ HXC.out
      clear y0 y1 HSS HSM HO HBR HB1 HXA HK1 HK2
      go_wp2_with (fail)
      go_at_call 30
      refine (HDD.out _ HB3.out).mono ?_
      rintro e w4 ⟨rfl, hb4⟩
      have HB4 := Lib.hid (Base.then_below HB3.out hb4)
      have HXD := Lib.hid (Base.then_below HXC.out hb4)
      clear hb4 HXC x0 x1 x2 HDD
      obtain ⟨⟨x0, x1, x2⟩, _⟩ := HK.out _ HXD.out
      go_wp2_with (fail)
      go_at_call 68
      refine (HH.out _ HB4.out).mono ?_
      rintro e w5 ⟨rfl, hb5⟩
      have HB5 := Lib.hid (Base.then_below HB4.out hb5)
      have HXE := Lib.hid (Base.then_below HXD.out hb5)
      clear hb5 HXD x0 x1 x2 HH
      obtain ⟨⟨x0, x1, x2⟩, _⟩ := HK.out _ HXE.out
      cases vq with
      | true =>
        simp only [if_true] at HL
        go_wp2_with (fail)
        go_at_call 30
        refine (HDE.out _ HB5.out).mono ?_
        rintro e w6 ⟨rfl, hb6⟩
        have HB6 := Lib.hid (Base.then_below HB5.out hb6)
        clear hb6 HXE x0 x1 x2
        cases ke
        · have HZ : Hid (z = 0) := Lib.hid (by rw [HL.out]; simp)
          go_wp2
          go_ret
          exact ⟨_, rfl, Or.inr (Or.inr (Or.inr ⟨rfl, HZ.out⟩)), HB6.out⟩
        · cases kd
          · have HZ : Hid (z = 0) := Lib.hid (by rw [HL.out]; simp)
            go_wp2
            go_ret
            exact ⟨_, rfl, Or.inr (Or.inr (Or.inr ⟨rfl, HZ.out⟩)), HB6.out⟩
          · have HZ : Hid (z = max 0 (de - dd)) := Lib.hid (by rw [HL.out]; simp)
            go_wp2
            go_ret
            exact ⟨_, rfl, Or.inr (Or.inl ⟨dd, de, rfl, HDB.out, HEB.out, HZ.out⟩), HB6.out⟩
      | false =>
        simp only [Bool.false_eq_true, if_false] at HL
        go_wp2_with (fail)
        go_at_call 30
        refine (HDM.out _ HB5.out).mono ?_
        rintro e w6 ⟨rfl, hb6⟩
        have HB6 := Lib.hid (Base.then_below HB5.out hb6)
        have HXF := Lib.hid (Base.then_below HXE.out hb6)
        clear hb6 HXE x0 x1 x2
        obtain ⟨⟨x0, x1, x2⟩, _⟩ := HK.out _ HXF.out
        by_cases hc : c = 200
        case neg =>
          have hq : (c != 200) = true := by simpa using hc
          have HZ : Hid (z = 0) := Lib.hid (by rw [HL.out, if_neg (fun h => hc h.1)])
          clear HL hc
          go_wp2
          go_ret
          exact ⟨_, rfl, Or.inr (Or.inr (Or.inr ⟨rfl, HZ.out⟩)), HB6.out⟩
        subst hc
        cases kd
        · have HZ : Hid (z = 0) := Lib.hid (by rw [HL.out]; simp)
          clear HL
          go_wp2
          go_ret
          exact ⟨_, rfl, Or.inr (Or.inr (Or.inr ⟨rfl, HZ.out⟩)), HB6.out⟩
        · cases km
          · have HZ : Hid (z = 0) := Lib.hid (by rw [HL.out]; simp)
            clear HL
            go_wp2
            go_ret
            exact ⟨_, rfl, Or.inr (Or.inr (Or.inr ⟨rfl, HZ.out⟩)), HB6.out⟩
          · have HZ : Hid (z = max 0 (min 86400 ((dd - dm).tdiv 10))) := Lib.hid (by rw [HL.out]; simp)
            clear HL
            go_wp2
            go_ret
            exact ⟨_, rfl, Or.inr (Or.inr (Or.inl ⟨dm, dd, rfl, HMB.out, HDB.out, HZ.out⟩)), HB6.out⟩

set_option maxHeartbeats 4000000 in
theorem impl_life (c : Int) (v : Value) (B : Nat) (l : List Flds.Fld) (b : List UInt8) (w : World) (h : Flds.Holds w B v l) (hB : B ≤ w.heap.size) (hl : Flds.total l ≤ 1048576) (ht : Age.Tabs w) (hv : Dir.Errs w) :
    Calls Tryz.prog 18 #[.agg #[.int .i64 c, v, .string ⟨b.toArray⟩]] w (NumEnd (life c l) w) := by
  have HB0 : Hid (Below w.heap.size w (w.alloc (.cells #[.int .i64 c, v, .string ⟨b.toArray⟩] 29))) := Lib.hid ((Below.refl _ _).alloc (Nat.le_refl _) _)
  have HE := Lib.hid (impl_expiry c v B l b _ (Flds.holds_below h (HB0.out.mono hB)) (Nat.le_trans hB HB0.out.size) hl (Age.tabs_below ht HB0.out) (Dir.errs_below hv HB0.out))
  unfold WayEnd at HE
  unfold NumEnd
  clear h hl ht hv
  generalize life c l = z at HE ⊢
  go_enter Tryz.func18, Tryz.ntmps18
  go_wp2_with (fail)
  go_at_call 43
  refine HE.out.mono ?_
  rintro e w1 ⟨x, rfl, hx, hb1⟩
  have HB1 := Lib.hid (HB0.out.trans (hb1.mono HB0.out.size))
  clear hb1
  rcases hx with ⟨s, rfl, hzs⟩ | ⟨d, e, rfl, ⟨hd0, hd1⟩, ⟨he0, he1⟩, hz⟩ | ⟨m, d, rfl, ⟨hm0, hm1⟩, ⟨hd0, hd1⟩, hz⟩ | ⟨rfl, rfl⟩
  · have HB2 := Lib.hid (HB1.out.alloc HB1.out.size (.cells #[.int .i64 s] 69))
    subst hzs
    have q1 := fun xT W => Tya.ta_yes Tryz.underlying69 (.agg #[.int .i64 z]) xT W
    go_wp2
    go_ret
    exact ⟨rfl, HB2.out⟩
  · have HZ := Lib.hid hz
    have HB2 := Lib.hid (HB1.out.alloc HB1.out.size (.cells #[.int .i64 d, .int .i64 e] 71))
    clear hz
    have q1 := fun xT W => Tya.ta_no Tryz.underlying69 (show (71 : TypeId) ≠ 69 by decide) Tya.z1 (.agg #[.int .i64 d, .int .i64 e]) xT W
    have q2 := fun xT W => Tya.ta_yes Tryz.underlying71 (.agg #[.int .i64 d, .int .i64 e]) xT W
    go_wp2_with (fail)
    go_at_call 29
    refine (Mm.impl_max _ _ _).mono ?_
    rintro e wm ⟨rfl, rfl⟩
    go_wp2
    go_ret
    exact ⟨ret_n HZ.out.symm, HB2.out⟩
  · have HZ := Lib.hid hz
    have HB2 := Lib.hid (HB1.out.alloc HB1.out.size (.cells #[.int .i64 m, .int .i64 d] 73))
    clear hz
    have q1 := fun xT W => Tya.ta_no Tryz.underlying69 (show (73 : TypeId) ≠ 69 by decide) Tya.z1 (.agg #[.int .i64 m, .int .i64 d]) xT W
    have q2 := fun xT W => Tya.ta_no Tryz.underlying71 (show (73 : TypeId) ≠ 71 by decide) Tya.z2 (.agg #[.int .i64 m, .int .i64 d]) xT W
    have q3 := fun xT W => Tya.ta_yes Tryz.underlying73 (.agg #[.int .i64 m, .int .i64 d]) xT W
    go_wp2_with (fail)
    go_at_call 44
    refine (Mm.impl_clamp _ _ _ _).mono ?_
    rintro e wm ⟨rfl, rfl⟩
    go_wp2
    go_ret
    exact ⟨ret_n (by rw [HZ.out]; omega), HB2.out⟩
  · have q1 := fun xT W => Tya.ta_nil Tryz.underlying69 Tya.z1 xT W
    have q2 := fun xT W => Tya.ta_nil Tryz.underlying71 Tya.z2 xT W
    have q3 := fun xT W => Tya.ta_nil Tryz.underlying73 Tya.z3 xT W
    go_wp2
    go_ret
    exact ⟨rfl, HB1.out⟩
end Go.Proofs.YtgclilgahalgaaaGreatDoor.Lif

/-
  CONTRACTS of both sides' IsFresh; nothing that was there before is changed.
-/
namespace Go.Proofs.YtgclilgahalgaaaGreatDoor.Lif
open Go Go.RowKit
set_option linter.unusedVariables false
set_option maxRecDepth 1000000
def BoolEnd (b : Bool) (w : World) (e : Ending) (w' : World) : Prop := e = .returned (.bool b) ∧ Below w.heap.size w w'
theorem ret_b {a b : Bool} (h : a = b) : Ending.returned (.bool a) = .returned (.bool b) := by rw [h]
noncomputable def fresh (c : Int) (l : List Flds.Fld) (a : Int) : Bool := decide (a < life c l)
theorem spec_fresh (c : Int) (v : Value) (B : Nat) (l : List Flds.Fld) (b : List UInt8) (a : Int) (w : World) (h : Flds.Holds w B v l) (hB : B ≤ w.heap.size) (hl : Flds.total l ≤ 1048576) :
    Calls Tryz.prog 19 #[.agg #[.int .i64 c, v, .string ⟨b.toArray⟩], .int .i64 a] w (BoolEnd (fresh c l a) w) := by
  have HB0 : Hid (Below w.heap.size w (w.alloc (.cells #[.int .i64 c, v, .string ⟨b.toArray⟩] 29))) := Lib.hid ((Below.refl _ _).alloc (Nat.le_refl _) _)
  have HE := Lib.hid (spec_life c v B l b _ (Flds.holds_below h (HB0.out.mono hB)) (Nat.le_trans hB HB0.out.size) hl)
  have HE' := Lib.hid (spec_life c v B l b w h hB hl)
  unfold NumEnd at HE HE'
  unfold BoolEnd fresh
  clear h hl
  generalize life c l = z at HE HE' ⊢
  by_cases hz : a < z
  all_goals
    go_enter Tryz.func19, Tryz.ntmps19
    go_wp2_with (fail)
    go_at_call 17
    first
      | (refine HE.out.mono ?_
         rintro e w1 ⟨rfl, hb1⟩
         have HB1 := Lib.hid (HB0.out.trans (hb1.mono HB0.out.size)))
      | (refine HE'.out.mono ?_
         rintro e w1 ⟨rfl, hb1⟩
         have HB1 := Lib.hid hb1)
    clear hb1
    go_wp2
    go_ret
    exact ⟨ret_b (by simp <;> omega), HB1.out⟩
theorem impl_fresh (c : Int) (v : Value) (B : Nat) (l : List Flds.Fld) (b : List UInt8) (a : Int) (w : World) (h : Flds.Holds w B v l) (hB : B ≤ w.heap.size) (hl : Flds.total l ≤ 1048576) (ht : Age.Tabs w) (hv : Dir.Errs w) :
    Calls Tryz.prog 20 #[.agg #[.int .i64 c, v, .string ⟨b.toArray⟩], .int .i64 a] w (BoolEnd (fresh c l a) w) := by
  have HB0 : Hid (Below w.heap.size w (w.alloc (.cells #[.int .i64 c, v, .string ⟨b.toArray⟩] 29))) := Lib.hid ((Below.refl _ _).alloc (Nat.le_refl _) _)
  have HE := Lib.hid (impl_life c v B l b _ (Flds.holds_below h (HB0.out.mono hB)) (Nat.le_trans hB HB0.out.size) hl (Age.tabs_below ht HB0.out) (Dir.errs_below hv HB0.out))
  have HE' := Lib.hid (impl_life c v B l b w h hB hl ht hv)
  unfold NumEnd at HE HE'
  unfold BoolEnd fresh
  clear h hl ht hv
  generalize life c l = z at HE HE' ⊢
  by_cases hz : a < z
  all_goals
    go_enter Tryz.func20, Tryz.ntmps20
    go_wp2_with (fail)
    go_at_call 18
    first
      | (refine HE.out.mono ?_
         rintro e w1 ⟨rfl, hb1⟩
         have HB1 := Lib.hid (HB0.out.trans (hb1.mono HB0.out.size)))
      | (refine HE'.out.mono ?_
         rintro e w1 ⟨rfl, hb1⟩
         have HB1 := Lib.hid hb1)
    clear hb1
    go_wp2
    go_ret
    exact ⟨ret_b (by simp <;> omega), HB1.out⟩
end Go.Proofs.YtgclilgahalgaaaGreatDoor.Lif

/-
  CONTRACTS of the laws' helpers for a Request: an argument of that type, opened; its size (szRequest), a copy (toRequest), the comparison of two that hold the same (eqRequest). Nothing that was there before is changed.
-/
namespace Go.Proofs.YtgclilgahalgaaaGreatDoor.Msg
open Go Go.RowKit
set_option linter.unusedVariables false
set_option maxRecDepth 1000000

def Ok_req (m h t : List UInt8) (l : List F) : Prop := m.length ≤ maxLen ∧ h.length ≤ maxLen ∧ t.length ≤ maxLen ∧ FOk l

set_option maxRecDepth 1000000 in
/-- An argument of type laws.Request, opened. -/
theorem open_req {H : Type} {enc : TypeId × Value → H} {W : World} {base : Nat} {v : Value} {d : DataW H} {p : List MemPlace}
    (hok : Value.okWide Tryz.prog W .any base 34 v) (h : DataW.Trod enc Tryz.prog W 0 (fun _ => true) true 34 v d p) :
    ∃ (m ho t : List UInt8) (u : Value) (l : List F), v = .agg #[.string ⟨m.toArray⟩, .string ⟨ho.toArray⟩, .string ⟨t.toArray⟩, u] ∧ Flds.Holds W W.heap.size u l ∧ Ok_req m ho t l := by
  obtain ⟨cs', rfl, hsz⟩ := WideShapes.okWide_struct Tryz.underlying34 hok
  obtain ⟨fuel, hf⟩ := h
  have cels : Tryz.prog.cellsOf 9 = 1 := by kernel_rfl
  have celf : Tryz.prog.cellsOf 22 = 1 := by kernel_rfl
  have ce : Tryz.prog.cellsOf 34 = 4 := by kernel_rfl
  obtain ⟨l⟩ := cs'
  obtain ⟨xs, k, hk, hxy, _, hxl, hg⟩ := DataW.trod_struct Tryz.underlying34 hf
  match l, hsz.trans ce, xs, hxl with
  | [v0, v1, v2, v3], _, [y0, y1, y2, y3], _ =>
    have g0 := hg 0 _ rfl
    have g1 := hg 1 _ rfl
    have g2 := hg 2 _ rfl
    have g3 := hg 3 _ rfl
    simp [Value.cells, cels, celf] at g0 g1 g2 g3
    obtain ⟨n0, rfl, hn0⟩ := open_text g0
    obtain ⟨n1, rfl, hn1⟩ := open_text g1
    obtain ⟨n2, rfl, hn2⟩ := open_text g2
    obtain ⟨u, fl, hu, hh, hl1, hl2⟩ := Flds.open_cells g3
    obtain rfl : v3 = u := by simpa using hu
    exact ⟨n0, n1, n2, v3, fl, by simp, hh, hn0, hn1, hn2, hl1, hl2⟩

set_option maxHeartbeats 1000000 in
/-- Its size: not below 0 just where it is at most what is left. -/
theorem size_req (m ho t : List UInt8) (u : Value) (l : List F) (left : Int) (B : Nat) (w : World) (h : Flds.Holds w B u l) (hB : B ≤ w.heap.size) (hok : Ok_req m ho t l) (h0 : 0 ≤ left) (h3 : left ≤ 1048576) :
    Calls Tryz.prog 12 #[.agg #[.string ⟨m.toArray⟩, .string ⟨ho.toArray⟩, .string ⟨t.toArray⟩, u], .int .i64 left] w fun e w' => ∃ z : Int, e = .returned (.int .i64 z) ∧ (z < 0 ∨ (0 ≤ z ∧ z + ((Flds.total l + m.length + ho.length + t.length : Nat) : Int) = left)) ∧ Below w.heap.size w w' := by
  have hs0 : (⟨m.toArray⟩ : ByteArray).size = m.length := by simp [ByteArray.size]
  have hs1 : (⟨ho.toArray⟩ : ByteArray).size = ho.length := by simp [ByteArray.size]
  have hs2 : (⟨t.toArray⟩ : ByteArray).size = t.length := by simp [ByteArray.size]
  have HB0 := Lib.hid ((Below.refl w.heap.size w).alloc (Nat.le_refl _) (.cells #[.string ⟨m.toArray⟩, .string ⟨ho.toArray⟩, .string ⟨t.toArray⟩, u] 34))
  obtain ⟨hm, hh, ht, hl⟩ := hok
  unfold maxLen at hm hh ht
  by_cases q0 : left - (m.length : Int) < 0
  · clear h hl
    go_enter Tryz.func12, Tryz.ntmps12
    go_wp2
    go_ret
    exact ⟨_, rfl, Or.inl (by omega), HB0.out⟩
  by_cases q1 : left - (m.length : Int) - (ho.length : Int) < 0
  · clear h hl
    go_enter Tryz.func12, Tryz.ntmps12
    go_wp2
    go_ret
    exact ⟨_, rfl, Or.inl (by omega), HB0.out⟩
  by_cases q2 : left - (m.length : Int) - (ho.length : Int) - (t.length : Int) < 0
  · clear h hl
    go_enter Tryz.func12, Tryz.ntmps12
    go_wp2
    go_ret
    exact ⟨_, rfl, Or.inl (by omega), HB0.out⟩
  have HS := Lib.hid (Flds.size_any u B l (left - (m.length : Int) - (ho.length : Int) - (t.length : Int)) _ (Flds.holds_below h (HB0.out.mono hB)) hl.1 hl.2 (by omega) (by omega))
  clear h hl
  go_enter Tryz.func12, Tryz.ntmps12
  go_wp2_with (fail)
  go_at_call 21
  refine HS.out.mono ?_
  rintro e w1 ⟨z, rfl, hz, hb1⟩
  have HB1 := Lib.hid (HB0.out.trans (hb1.mono (by simp)))
  clear hb1
  rcases hz with hz | ⟨hz0, hz1⟩
  · go_wp2
    go_ret
    exact ⟨_, rfl, Or.inl (by omega), HB1.out⟩
  · have hzn : ¬ z < 0 := by omega
    have HT := Lib.hid hz1
    clear hz1
    go_wp2
    go_ret
    exact ⟨_, rfl, Or.inr ⟨by omega, by have := HT.out; omega⟩, HB1.out⟩

def CopiedQ (m ho t : List UInt8) (l : List F) (w : World) (e : Ending) (w' : World) : Prop := ∃ v, e = .returned (.agg #[.string ⟨m.toArray⟩, .string ⟨ho.toArray⟩, .string ⟨t.toArray⟩, v]) ∧ Flds.Own w' w.heap.size v l ∧ Below w.heap.size w w'
set_option maxHeartbeats 1000000 in
theorem copy_req (m ho t : List UInt8) (u : Value) (l : List F) (B : Nat) (w : World) (h : Flds.Holds w B u l) (hB : B ≤ w.heap.size) (hl : l.length ≤ 1048576) :
    Calls Tryz.prog 14 #[.agg #[.string ⟨m.toArray⟩, .string ⟨ho.toArray⟩, .string ⟨t.toArray⟩, u]] w (CopiedQ m ho t l w) := by
  have HB0 := Lib.hid ((((Below.refl w.heap.size w).alloc (Nat.le_refl _) (.cells #[.string ⟨m.toArray⟩, .string ⟨ho.toArray⟩, .string ⟨t.toArray⟩, u] 34)).alloc (by simp) (.cells #[.string ⟨#[]⟩, .string ⟨#[]⟩, .string ⟨#[]⟩, .slice none 0 0] 38)).alloc (by simp; omega) (.cells #[.string ⟨m.toArray⟩, .string ⟨ho.toArray⟩, .string ⟨t.toArray⟩, .slice none 0 0] 38))
  have HS := Lib.hid (Flds.copy u B l _ (Flds.holds_below h (HB0.out.mono hB)) hl)
  unfold CopiedQ
  clear h
  go_enter Tryz.func14, Tryz.ntmps14
  go_wp2_with (fail)
  go_at_call 27
  refine HS.out.mono ?_
  rintro e w1 ⟨v, rfl, ho', hb1⟩
  obtain ⟨a, cap, rfl, _⟩ := Rec.shape_at ho'
  have hk3 := Kept.three hb1
  have hk2 := Kept.two (Kept.below_in hb1)
  have q0 := hk3.1 0 _ rfl
  have q1 := hk3.1 1 _ rfl
  have q2 := hk3.1 2 _ rfl
  have q3 := hk3.1 3 _ rfl
  have r0 := hk2.1 0 _ rfl
  have r1 := hk2.1 1 _ rfl
  have r2 := hk2.1 2 _ rfl
  have r3 := hk2.1 3 _ rfl
  have fs3 := hk3.2 3
  have fr0 := hk2.2 0
  have fr1 := hk2.2 1
  have fr2 := hk2.2 2
  have fr3 := hk2.2 3
  have HO := Lib.hid ho'
  have HBW := Lib.hid (HB0.out.trans (hb1.mono HB0.out.size))
  clear ho' hb1 hk3 hk2
  go_wp2
  refine bodyPost_ret (v := .agg #[.string ⟨m.toArray⟩, .string ⟨ho.toArray⟩, .string ⟨t.toArray⟩, .slice a l.length cap]) (by simp [results, Tryz.results14, go_sem, r0, r1, r2, r3]) rfl ⟨_, rfl, ?_, ?_⟩
  · have hno : ∀ k, Value.ownBlock (.slice a l.length cap) = some k → w.heap.size + 1 + 1 < k := fun k e => by have h9 := (HO.out.lt k e).1; simp at h9; omega
    have e2 : Value.ownBlock (.slice a l.length cap) ≠ some (w.heap.size + 1 + 1) := fun e => by have := hno _ e; omega
    have e1 : Value.ownBlock (.slice a l.length cap) ≠ some (w.heap.size + 1) := fun e => by have := hno _ e; omega
    exact Rec.own_mono (ownsRow_setCell_other (a := ⟨w.heap.size + 1, 3, none⟩) (ownsRow_setCell_other (a := ⟨w.heap.size + 1, 2, none⟩) (ownsRow_setCell_other (a := ⟨w.heap.size + 1, 1, none⟩) (ownsRow_setCell_other (a := ⟨w.heap.size + 1, 0, none⟩) (ownsRow_setCell_other (a := ⟨w.heap.size + 1 + 1, 3, none⟩) HO.out e2 _) e1 _) e1 _) e1 _) e1 _) (by simp; omega)
  · exact ((((HBW.out.setCell (by show w.heap.size ≤ w.heap.size + 1 + 1; omega) _).setCell (by show w.heap.size ≤ w.heap.size + 1; omega) _).setCell (by show w.heap.size ≤ w.heap.size + 1; omega) _).setCell (by show w.heap.size ≤ w.heap.size + 1; omega) _).setCell (by show w.heap.size ≤ w.heap.size + 1; omega) _

theorem eq_req (m ho t : List UInt8) (u : Value) (l : List F) (v : Value) (B B' : Nat) (w : World) (h : Flds.Holds w B u l) (h' : Flds.Holds w B' v l) (hB : B ≤ w.heap.size) (hB' : B' ≤ w.heap.size) (hl : l.length ≤ 1048576) :
    Calls Tryz.prog 16 #[.agg #[.string ⟨m.toArray⟩, .string ⟨ho.toArray⟩, .string ⟨t.toArray⟩, u], .agg #[.string ⟨m.toArray⟩, .string ⟨ho.toArray⟩, .string ⟨t.toArray⟩, v]] w (Rec.Yes w) := by
  have HB0 := Lib.hid (((Below.refl w.heap.size w).alloc (Nat.le_refl _) (.cells #[.string ⟨m.toArray⟩, .string ⟨ho.toArray⟩, .string ⟨t.toArray⟩, u] 38)).alloc (by simp) (.cells #[.string ⟨m.toArray⟩, .string ⟨ho.toArray⟩, .string ⟨t.toArray⟩, v] 38))
  have HS := Lib.hid (Flds.eq_same u v B B' l _ (Flds.holds_below h (HB0.out.mono hB)) (Flds.holds_below h' (HB0.out.mono hB')) hl)
  unfold Flds.Yes at HS
  unfold Rec.Yes
  clear h h'
  go_enter Tryz.func16, Tryz.ntmps16
  go_wp2_with (fail)
  go_at_call 32
  refine HS.out.mono ?_
  rintro e w1 ⟨rfl, hb1⟩
  have HBW := Lib.hid (HB0.out.trans (hb1.mono HB0.out.size))
  clear hb1
  go_wp2
  go_ret
  exact ⟨rfl, HBW.out⟩
end Go.Proofs.YtgclilgahalgaaaGreatDoor.Msg
