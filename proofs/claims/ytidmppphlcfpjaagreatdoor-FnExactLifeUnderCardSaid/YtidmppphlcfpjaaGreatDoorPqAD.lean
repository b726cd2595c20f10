/-
  CONTRACTS AND PLAIN FACTS, several texts in one; each says in its own words what it proves.
-/
import Derived.Test.YtidmppphlcfpjaaGreatDoorPqA
import Derived.Stop.Asserts
import Derived.Test.YtidmppphlcfpjaaGreatDoorPqAC
import Derived.Test.YtidmppphlcfpjaaGreatDoorPqX
import Derived.Test.YtidmppphlcfpjaaGreatDoorPqO
import Derived.Test.YtidmppphlcfpjaaGreatDoorPqN
import Derived.Test.YtidmppphlcfpjaaGreatDoorPqL
import Derived.Test.YtidmppphlcfpjaaGreatDoorPqW
import Derived.Test.YtidmppphlcfpjaaGreatDoorPqP
import Derived.Test.YtidmppphlcfpjaaGreatDoorPqF
set_option linter.unusedSimpArgs false
set_option linter.unusedVariables false

/-
  WHAT A TYPE ASSERTION OF AN INTERFACE VALUE TO A STRUCT TYPE GIVES.
-/
namespace Go.Proofs.YtidmppphlcfpjaaGreatDoor.Tya
open Go Go.RowKit
set_option linter.unusedVariables false
set_option maxRecDepth 1000000
theorem ta_yes {P : Program} {T : TypeId} {fs : Array Field} (hu : P.underlying T = some (.struct fs)) (v : Value) (xT : TypeId) (w : World) : (Instr.typeAssert (.iface T v) xT T true).run P w = .ok (.tuple #[v, .bool true]) w := by
  simp [Instr.typeAssert, run_underlying hu]
theorem ta_no {P : Program} {T t : TypeId} {fs : Array Field} {z : Value} (hu : P.underlying T = some (.struct fs)) (hne : t ≠ T) (hz : (P.info? T).map (·.zero) = some (some z)) (v : Value) (xT : TypeId) (w : World) : (Instr.typeAssert (.iface t v) xT T true).run P w = .ok (.tuple #[z, .bool false]) w := by
  obtain ⟨j, hj, hz2⟩ := Option.map_eq_some_iff.1 hz
  simp [Instr.typeAssert, run_underlying hu, hne, zeroValue, typeInfo, hj, hz2]
theorem ta_nil {P : Program} {T : TypeId} {fs : Array Field} {z : Value} (hu : P.underlying T = some (.struct fs)) (hz : (P.info? T).map (·.zero) = some (some z)) (xT : TypeId) (w : World) : (Instr.typeAssert .nilIface xT T true).run P w = .ok (.tuple #[z, .bool false]) w := by
  obtain ⟨j, hj, hz2⟩ := Option.map_eq_some_iff.1 hz
  simp [Instr.typeAssert, run_underlying hu, zeroValue, typeInfo, hj, hz2]
theorem z1 : (Tryz.prog.info? 130).map (·.zero) = some (some (.agg #[.int .i64 0])) := by kernel_rfl
theorem z2 : (Tryz.prog.info? 132).map (·.zero) = some (some (.agg #[.int .i64 0, .int .i64 0])) := by kernel_rfl
theorem z3 : (Tryz.prog.info? 134).map (·.zero) = some (some (.agg #[.int .i64 0, .int .i64 0])) := by kernel_rfl
end Go.Proofs.YtidmppphlcfpjaaGreatDoor.Tya

/-
  CONTRACTS of the program's expiryOf and LifetimeOf; nothing that was there before is changed.
-/
namespace Go.Proofs.YtidmppphlcfpjaaGreatDoor.Lif
open Go Go.RowKit
set_option linter.unusedVariables false
set_option maxRecDepth 1000000

def TB (a : Int) : Prop := 0 ≤ a ∧ a ≤ 4102444799
/-- The way in which an answer expires, and what that says of its lifetime z. -/
def Way (z : Int) (x : Value) : Prop :=
  (∃ s : Int, x = .iface 130 (.agg #[.int .i64 s]) ∧ z = s) ∨
  (∃ d e : Int, x = .iface 132 (.agg #[.int .i64 d, .int .i64 e]) ∧ TB d ∧ TB e ∧ z = max 0 (e - d)) ∨
  (∃ m d : Int, x = .iface 134 (.agg #[.int .i64 m, .int .i64 d]) ∧ TB m ∧ TB d ∧ z = max 0 (min 86400 ((d - m).tdiv 10))) ∨
  (x = Value.nilIface ∧ z = 0)
def WayEnd (z : Int) (w : World) (e : Ending) (w' : World) : Prop := ∃ x, e = .returned x ∧ Way z x ∧ Below w.heap.size w w'

set_option maxHeartbeats 4000000 in
theorem impl_expiry (c : Int) (v : Value) (B : Nat) (l : List Flds.Fld) (b : List UInt8) (w : World) (h : Flds.Holds w B v l) (hB : B ≤ w.heap.size) (hl : Flds.total l ≤ 1048576) (ht : Age.Tabs w) (hv : Dir.Errs w) :
    Calls Tryz.prog 84 #[.agg #[.int .i64 c, v, .string ⟨b.toArray⟩]] w (WayEnd (life c l) w) := by
  have HB0 : Hid (Below w.heap.size w (w.alloc (.cells #[.int .i64 c, v, .string ⟨b.toArray⟩] 49))) := Lib.hid ((Below.refl _ _).alloc (Nat.le_refl _) _)
  have HK := Lib.hid (fun w1 => Age.kept3 (w := w) (w1 := w1) (T := 49) (a := .int .i64 c) (b := v) (c := .string ⟨b.toArray⟩))
  have HR := Lib.hid (impl_rules v B l _ (Flds.holds_below h (HB0.out.mono hB)) (Nat.le_trans hB HB0.out.size) hl (Dir.errs_below hv HB0.out))
  have HS := Lib.hid (fun n u (W W' : World) (ho : Dir.Own W w.heap.size u (rules l)) (hb : Below W.heap.size W W') => Dir.impl_sec u _ (rules l) n W' (Dir.holds_below (Dir.own_holds ho) hb) hb.size (rules_len hl) (rules_mem hl))
  have HD := Lib.hid (fun n W (hb : Below w.heap.size w W) => Age.impl_din v B l n W (Flds.holds_below h (hb.mono hB)) (Nat.le_trans hB hb.size) hl (Age.tabs_below ht hb))
  have HH := Lib.hid (fun W (hb : Below w.heap.size w W) => Flds.impl_has v B l exN W (Flds.holds_below h (hb.mono hB)) (Nat.le_trans hB hb.size) (Nat.le_trans (by unfold Flds.total; omega) hl))
  have hhv : decide (0 < (Flds.vals exN l).length) = Flds.has l exN := Flds.has_vals l exN
  have HL : Hid (life c l = if (Dir.sof smN (rules l)).2 = true then (Dir.sof smN (rules l)).1
    else if (Dir.sof maN (rules l)).2 = true then (Dir.sof maN (rules l)).1
    else if 0 < (Flds.vals exN l).length then (if (Age.din exN l).2 = true ∧ (Age.din Age.dateN l).2 = true then max 0 ((Age.din exN l).1 - (Age.din Age.dateN l).1) else 0)
    else if c = 200 ∧ (Age.din Age.dateN l).2 = true ∧ (Age.din Rgh.modN l).2 = true then max 0 (min 86400 (((Age.din Age.dateN l).1 - (Age.din Rgh.modN l).1).tdiv 10)) else 0) := Lib.hid rfl
  unfold Dir.SecEnd at HS
  unfold Age.PairEnd at HD
  unfold RulesEnd at HR
  unfold WayEnd
  have HSS := Lib.hid (HS.out smN)
  have HSM := Lib.hid (HS.out maN)
  have HDD := Lib.hid (HD.out Age.dateN)
  have HDM := Lib.hid (HD.out Rgh.modN)
  have HDE := Lib.hid (HD.out exN)
  have dbd := Age.din_bd Age.dateN l
  have mbd := Age.din_bd Rgh.modN l
  have ebd := Age.din_bd exN l
  have HVQ : Hid (0 < (Flds.vals exN l).length ↔ Flds.has l exN = true) := Lib.hid (by rw [← hhv]; simp)
  simp only [HVQ.out] at HL
  clear h hl HS HD ht hv hhv HVQ
  generalize life c l = z at HL ⊢
  generalize rules l = rs at HR HSS HSM HL
  generalize Dir.sof smN rs = s1 at HSS HL
  generalize Dir.sof maN rs = s2 at HSM HL
  generalize Age.din Age.dateN l = dd at HDD HL dbd
  generalize Age.din Rgh.modN l = dm at HDM HL mbd
  generalize Age.din exN l = de at HDE HL ebd
  generalize Flds.has l exN = vq at HH HL
  obtain ⟨s1, k1⟩ := s1
  obtain ⟨s2, k2⟩ := s2
  obtain ⟨dd, kd⟩ := dd
  obtain ⟨dm, km⟩ := dm
  obtain ⟨de, ke⟩ := de
  simp only at HSS HSM HDD HDM HDE HL dbd mbd ebd
  have HDB := Lib.hid dbd
  have HMB := Lib.hid mbd
  have HEB := Lib.hid ebd
  clear dbd mbd ebd
  unfold smN at HSS
  unfold maN at HSM
  unfold Age.dateN at HDD
  unfold Rgh.modN at HDM
  unfold exN at HDE HH
  go_enter Tryz.func84, Tryz.ntmps84
  go_wp2_with (fail)
  go_at_call 116
  refine HR.out.mono ?_
  rintro e w1 ⟨u, rfl, ho, hb1⟩
  obtain ⟨⟨x0, x1, x2⟩, hbw⟩ := HK.out _ hb1
  have HB1 := Lib.hid hbw
  have HO : Hid (Dir.Own w1 w.heap.size u rs) := Lib.hid (Dir.own_mono ho (by rw [World.size_alloc]; omega))
  have HXA := Lib.hid hb1
  clear hb1 hbw ho x0 x1 x2 HR
  go_wp2
  go_loopw [5, 6, 7, 19] (fun _ _ _ i wr => ∃ j : Nat, j ≤ 2 ∧ i = .int .i64 j ∧ (1 ≤ j → k1 = false) ∧ (2 ≤ j → k2 = false) ∧ (wr.cell? ⟨w1.heap.size, 0, none⟩ = some (.string ⟨#[115, 45, 109, 97, 120, 97, 103, 101]⟩) ∧ wr.cell? ⟨w1.heap.size, 1, none⟩ = some (.string ⟨#[109, 97, 120, 45, 97, 103, 101]⟩)) ∧ Hid (Below w1.heap.size w1 wr)) (fun _ _ _ i _ => 2 - (intOf i).toNat)
  case atStart => exact ⟨0, by omega, rfl, fun h => absurd h (by omega), fun h => absurd h (by omega), ⟨by rw [World.cell?_alloc_new]; rfl, by rw [World.cell?_alloc_new]; rfl⟩, Lib.hid ((Below.refl _ _).alloc (Nat.le_refl _) _)⟩
  case round =>
    obtain ⟨j, hj, rfl, hk1, hk2, ⟨y0, y1⟩, HBR⟩ := hrel
    have HK1 := Lib.hid hk1
    have HK2 := Lib.hid hk2
    clear hk1 hk2
    have hjc : j = 0 ∨ j = 1 ∨ j = 2 := by omega
    rcases hjc with rfl | rfl | rfl
    · go_wp2_with (fail)
      go_at_call 117
      refine (HSS.out u _ _ HO.out HBR.out).mono ?_
      rintro e w2 ⟨rfl, hb2⟩
      have HB2 := Lib.hid (Base.then_below HBR.out hb2)
      have y0' := (hb2.cell (p := ⟨w1.heap.size, 0, none⟩) (Rec.lt_of_cell y0)).trans y0
      have y1' := (hb2.cell (p := ⟨w1.heap.size, 1, none⟩) (Rec.lt_of_cell y1)).trans y1
      clear hb2 y0 y1 HSS
      cases k1 with
      | true =>
        have HZ : Hid (z = s1) := Lib.hid (by rw [HL.out]; rfl)
        go_wp2
        go_ret
        exact ⟨_, rfl, Or.inl ⟨s1, rfl, HZ.out⟩, Base.then_below HB1.out HB2.out⟩
      | false =>
        go_wp2
        go_roundw
        case rel => exact ⟨1, by omega, rfl, fun _ => by trivial, fun h => absurd h (by omega), ⟨y0', y1'⟩, HB2⟩
        case measure => decide
    · go_wp2_with (fail)
      go_at_call 117
      refine (HSM.out u _ _ HO.out HBR.out).mono ?_
      rintro e w2 ⟨rfl, hb2⟩
      have HB2 := Lib.hid (Base.then_below HBR.out hb2)
      have y0' := (hb2.cell (p := ⟨w1.heap.size, 0, none⟩) (Rec.lt_of_cell y0)).trans y0
      have y1' := (hb2.cell (p := ⟨w1.heap.size, 1, none⟩) (Rec.lt_of_cell y1)).trans y1
      have hk := HK1.out (by omega)
      subst hk
      simp only [Bool.false_eq_true, if_false] at HL
      clear hb2 y0 y1 HSM
      cases k2 with
      | true =>
        have HZ : Hid (z = s2) := Lib.hid (by rw [HL.out]; rfl)
        go_wp2
        go_ret
        exact ⟨_, rfl, Or.inl ⟨s2, rfl, HZ.out⟩, Base.then_below HB1.out HB2.out⟩
      | false =>
        go_wp2
        go_roundw
        case rel => exact ⟨2, by omega, rfl, fun _ => by trivial, fun _ => by trivial, ⟨y0', y1'⟩, HB2⟩
        case measure => decide
    · have hk := HK1.out (by omega)
      subst hk
      have hk2 := HK2.out (by omega)
      subst hk2
      simp only [Bool.false_eq_true, if_false] at HL
      have HB3 := Lib.hid (Base.then_below HB1.out HBR.out)
      have HXC := Lib.hid (Base.then_below HXA.out HBR.out)
      obtain ⟨⟨x0, x1, x2⟩, _⟩ := HK.out _ HXC.out
      clear y0 y1 HSS HSM HO HBR HB1 HXA HK1 HK2
      go_wp2_with (fail)
      go_at_call 118
      refine (HDD.out _ HB3.out).mono ?_
      rintro e w4 ⟨rfl, hb4⟩
      have HB4 := Lib.hid (Base.then_below HB3.out hb4)
      have HXD := Lib.hid (Base.then_below HXC.out hb4)
      clear hb4 HXC x0 x1 x2 HDD
      obtain ⟨⟨x0, x1, x2⟩, _⟩ := HK.out _ HXD.out
      go_wp2_with (fail)
      go_at_call 119
      refine (HH.out _ HB4.out).mono ?_
      rintro e w5 ⟨rfl, hb5⟩
      have HB5 := Lib.hid (Base.then_below HB4.out hb5)
      have HXE := Lib.hid (Base.then_below HXD.out hb5)
      clear hb5 HXD x0 x1 x2 HH
      obtain ⟨⟨x0, x1, x2⟩, _⟩ := HK.out _ HXE.out
      cases vq with
      | true =>
        simp only [if_true] at HL
        go_wp2_with (fail)
        go_at_call 118
        refine (HDE.out _ HB5.out).mono ?_
        rintro e w6 ⟨rfl, hb6⟩
        have HB6 := Lib.hid (Base.then_below HB5.out hb6)
        clear hb6 HXE x0 x1 x2
        cases ke
        · have HZ : Hid (z = 0) := Lib.hid (by rw [HL.out]; simp)
          go_wp2
          go_ret
          exact ⟨_, rfl, Or.inr (Or.inr (Or.inr ⟨rfl, HZ.out⟩)), HB6.out⟩
        · cases kd
          · have HZ : Hid (z = 0) := Lib.hid (by rw [HL.out]; simp)
            go_wp2
            go_ret
            exact ⟨_, rfl, Or.inr (Or.inr (Or.inr ⟨rfl, HZ.out⟩)), HB6.out⟩
          · have HZ : Hid (z = max 0 (de - dd)) := Lib.hid (by rw [HL.out]; simp)
            go_wp2
            go_ret
            exact ⟨_, rfl, Or.inr (Or.inl ⟨dd, de, rfl, HDB.out, HEB.out, HZ.out⟩), HB6.out⟩
      | false =>
        simp only [Bool.false_eq_true, if_false] at HL
        go_wp2_with (fail)
        go_at_call 118
        refine (HDM.out _ HB5.out).mono ?_
        rintro e w6 ⟨rfl, hb6⟩
        have HB6 := Lib.hid (Base.then_below HB5.out hb6)
        have HXF := Lib.hid (Base.then_below HXE.out hb6)
        clear hb6 HXE x0 x1 x2
        obtain ⟨⟨x0, x1, x2⟩, _⟩ := HK.out _ HXF.out
        by_cases hc : c = 200
        case neg =>
          have hq : (c != 200) = true := by simpa using hc
          have HZ : Hid (z = 0) := Lib.hid (by rw [HL.out, if_neg (fun h => hc h.1)])
          clear HL hc
          go_wp2
          go_ret
          exact ⟨_, rfl, Or.inr (Or.inr (Or.inr ⟨rfl, HZ.out⟩)), HB6.out⟩
        subst hc
        cases kd
        · have HZ : Hid (z = 0) := Lib.hid (by rw [HL.out]; simp)
          clear HL
          go_wp2
          go_ret
          exact ⟨_, rfl, Or.inr (Or.inr (Or.inr ⟨rfl, HZ.out⟩)), HB6.out⟩
        · cases km
          · have HZ : Hid (z = 0) := Lib.hid (by rw [HL.out]; simp)
            clear HL
            go_wp2
            go_ret
            exact ⟨_, rfl, Or.inr (Or.inr (Or.inr ⟨rfl, HZ.out⟩)), HB6.out⟩
          · have HZ : Hid (z = max 0 (min 86400 ((dd - dm).tdiv 10))) := Lib.hid (by rw [HL.out]; simp)
            clear HL
            go_wp2
            go_ret
            exact ⟨_, rfl, Or.inr (Or.inr (Or.inl ⟨dm, dd, rfl, HMB.out, HDB.out, HZ.out⟩)), HB6.out⟩

set_option maxHeartbeats 4000000 in
theorem impl_life (c : Int) (v : Value) (B : Nat) (l : List Flds.Fld) (b : List UInt8) (w : World) (h : Flds.Holds w B v l) (hB : B ≤ w.heap.size) (hl : Flds.total l ≤ 1048576) (ht : Age.Tabs w) (hv : Dir.Errs w) :
    Calls Tryz.prog 52 #[.agg #[.int .i64 c, v, .string ⟨b.toArray⟩]] w (NumEnd (life c l) w) := by
  have HB0 : Hid (Below w.heap.size w (w.alloc (.cells #[.int .i64 c, v, .string ⟨b.toArray⟩] 49))) := Lib.hid ((Below.refl _ _).alloc (Nat.le_refl _) _)
  have HE := Lib.hid (impl_expiry c v B l b _ (Flds.holds_below h (HB0.out.mono hB)) (Nat.le_trans hB HB0.out.size) hl (Age.tabs_below ht HB0.out) (Dir.errs_below hv HB0.out))
  unfold WayEnd at HE
  unfold NumEnd
  clear h hl ht hv
  generalize life c l = z at HE ⊢
  go_enter Tryz.func52, Tryz.ntmps52
  go_wp2_with (fail)
  go_at_call 84
  refine HE.out.mono ?_
  rintro e w1 ⟨x, rfl, hx, hb1⟩
  have HB1 := Lib.hid (HB0.out.trans (hb1.mono HB0.out.size))
  clear hb1
  rcases hx with ⟨s, rfl, hzs⟩ | ⟨d, e, rfl, ⟨hd0, hd1⟩, ⟨he0, he1⟩, hz⟩ | ⟨m, d, rfl, ⟨hm0, hm1⟩, ⟨hd0, hd1⟩, hz⟩ | ⟨rfl, rfl⟩
  · have HB2 := Lib.hid (HB1.out.alloc HB1.out.size (.cells #[.int .i64 s] 130))
    subst hzs
    have q1 := fun xT W => Tya.ta_yes Tryz.underlying130 (.agg #[.int .i64 z]) xT W
    go_wp2
    go_ret
    exact ⟨rfl, HB2.out⟩
  · have HZ := Lib.hid hz
    have HB2 := Lib.hid (HB1.out.alloc HB1.out.size (.cells #[.int .i64 d, .int .i64 e] 132))
    clear hz
    have q1 := fun xT W => Tya.ta_no Tryz.underlying130 (show (132 : TypeId) ≠ 130 by decide) Tya.z1 (.agg #[.int .i64 d, .int .i64 e]) xT W
    have q2 := fun xT W => Tya.ta_yes Tryz.underlying132 (.agg #[.int .i64 d, .int .i64 e]) xT W
    go_wp2_with (fail)
    go_at_call 85
    refine (Mm.impl_max _ _ _).mono ?_
    rintro e wm ⟨rfl, rfl⟩
    go_wp2
    go_ret
    exact ⟨ret_n HZ.out.symm, HB2.out⟩
  · have HZ := Lib.hid hz
    have HB2 := Lib.hid (HB1.out.alloc HB1.out.size (.cells #[.int .i64 m, .int .i64 d] 134))
    clear hz
    have q1 := fun xT W => Tya.ta_no Tryz.underlying130 (show (134 : TypeId) ≠ 130 by decide) Tya.z1 (.agg #[.int .i64 m, .int .i64 d]) xT W
    have q2 := fun xT W => Tya.ta_no Tryz.underlying132 (show (134 : TypeId) ≠ 132 by decide) Tya.z2 (.agg #[.int .i64 m, .int .i64 d]) xT W
    have q3 := fun xT W => Tya.ta_yes Tryz.underlying134 (.agg #[.int .i64 m, .int .i64 d]) xT W
    go_wp2_with (fail)
    go_at_call 86
    refine (Mm.impl_clamp _ _ _ _).mono ?_
    rintro e wm ⟨rfl, rfl⟩
    go_wp2
    go_ret
    exact ⟨ret_n (by rw [HZ.out]; omega), HB2.out⟩
  · have q1 := fun xT W => Tya.ta_nil Tryz.underlying130 Tya.z1 xT W
    have q2 := fun xT W => Tya.ta_nil Tryz.underlying132 Tya.z2 xT W
    have q3 := fun xT W => Tya.ta_nil Tryz.underlying134 Tya.z3 xT W
    go_wp2
    go_ret
    exact ⟨rfl, HB1.out⟩
end Go.Proofs.YtidmppphlcfpjaaGreatDoor.Lif

/-
  CONTRACTS of LifeUnder, the model's and the program's, with actionOf and the two methods limit (written by gen_lfu.py); nothing that was there before is changed.
-/
namespace Go.Proofs.YtidmppphlcfpjaaGreatDoor.Lfu
open Go Go.RowKit
set_option linter.unusedVariables false
set_option maxRecDepth 1000000
set_option maxRecDepth 1000000

/-- The lifetime of an answer under a policy. -/
noncomputable def lfu (z : List Rul.T) (t : List UInt8) (c : Int) (lx : List Flds.Fld) : Int := if (Rul.rfor z t).1 = 2 then min (Lif.life c lx) (Rul.rfor z t).2.2 else Lif.life c lx
def NumEnd (z : Int) (w : World) (e : Ending) (w' : World) : Prop := e = .returned (.int .i64 z) ∧ Below w.heap.size w w'
theorem ret_n {a b : Int} (h : a = b) : Ending.returned (.int .i64 a) = .returned (.int .i64 b) := by rw [h]

set_option maxHeartbeats 4000000 in
theorem spec_lfu (v : Value) (B : Nat) (z : List Rul.T) (m h t : List UInt8) (u : Value) (c : Int) (x : Value) (lx : List Flds.Fld) (b : List UInt8) (w : World) (hv : Rul.Holds w B v z) (hx : Flds.Holds w B x lx) (hB : B ≤ w.heap.size) (hz : Rul.total z ≤ 1048576) (ht : t.length ≤ 1048576) (hl : Flds.total lx ≤ 1048576) :
    Calls Tryz.prog 20 #[v, .agg #[.string ⟨m.toArray⟩, .string ⟨h.toArray⟩, .string ⟨t.toArray⟩, u], .agg #[.int .i64 c, x, .string ⟨b.toArray⟩]] w (NumEnd (lfu z t c lx) w) := by
  have HB0 : Hid (Below w.heap.size w ((w.alloc (.cells #[.string ⟨m.toArray⟩, .string ⟨h.toArray⟩, .string ⟨t.toArray⟩, u] 46)).alloc (.cells #[.int .i64 c, x, .string ⟨b.toArray⟩] 49))) := Lib.hid (((Below.refl _ _).alloc (Nat.le_refl _) _).alloc (by simp) _)
  have HK : Hid (∀ W, Below ((w.alloc (.cells #[.string ⟨m.toArray⟩, .string ⟨h.toArray⟩, .string ⟨t.toArray⟩, u] 46)).alloc (.cells #[.int .i64 c, x, .string ⟨b.toArray⟩] 49)).heap.size ((w.alloc (.cells #[.string ⟨m.toArray⟩, .string ⟨h.toArray⟩, .string ⟨t.toArray⟩, u] 46)).alloc (.cells #[.int .i64 c, x, .string ⟨b.toArray⟩] 49)) W → (W.cell? ⟨w.heap.size, 0, none⟩ = some (.string ⟨m.toArray⟩) ∧ W.cell? ⟨w.heap.size, 1, none⟩ = some (.string ⟨h.toArray⟩) ∧ W.cell? ⟨w.heap.size, 2, none⟩ = some (.string ⟨t.toArray⟩) ∧ W.cell? ⟨w.heap.size, 3, none⟩ = some (u) ∧ W.cell? ⟨w.heap.size + 1, 0, none⟩ = some (.int .i64 c) ∧ W.cell? ⟨w.heap.size + 1, 1, none⟩ = some (x) ∧ W.cell? ⟨w.heap.size + 1, 2, none⟩ = some (.string ⟨b.toArray⟩)) ∧ Below w.heap.size w W) := Lib.hid (fun W hb => by
    have h2 := (Kept.Box.new (w := w.alloc (.cells #[.string ⟨m.toArray⟩, .string ⟨h.toArray⟩, .string ⟨t.toArray⟩, u] 46)) (T := 49) (a := #[.int .i64 c, x, .string ⟨b.toArray⟩])).below hb
    rw [show (w.alloc (.cells #[.string ⟨m.toArray⟩, .string ⟨h.toArray⟩, .string ⟨t.toArray⟩, u] 46)).heap.size = w.heap.size + 1 by simp] at h2
    have h1 := ((Kept.Box.new (w := w) (T := 46) (a := #[.string ⟨m.toArray⟩, .string ⟨h.toArray⟩, .string ⟨t.toArray⟩, u])).alloc (.cells #[.int .i64 c, x, .string ⟨b.toArray⟩] 49)).below hb
    exact ⟨⟨h1.cell 0 _ rfl, h1.cell 1 _ rfl, h1.cell 2 _ rfl, h1.cell 3 _ rfl, h2.cell 0 _ rfl, h2.cell 1 _ rfl, h2.cell 2 _ rfl⟩, HB0.out.trans (hb.mono HB0.out.size)⟩)
  have HL := Lib.hid (Lif.spec_life c x B lx b ((w.alloc (.cells #[.string ⟨m.toArray⟩, .string ⟨h.toArray⟩, .string ⟨t.toArray⟩, u] 46)).alloc (.cells #[.int .i64 c, x, .string ⟨b.toArray⟩] 49)) (Flds.holds_below hx (HB0.out.mono hB)) (Nat.le_trans hB HB0.out.size) hl)
  have HR := Lib.hid (fun W (hb : Below w.heap.size w W) => Rul.spec_rf v B z m h t u W (Rul.holds_below hv (hb.mono hB)) (Nat.le_trans hB hb.size) hz ht)
  have HE : Hid (lfu z t c lx = if (Rul.rfor z t).1 = 2 then min (Lif.life c lx) (Rul.rfor z t).2.2 else Lif.life c lx) := Lib.hid rfl
  unfold Lif.NumEnd at HL
  unfold Rul.RfEnd at HR
  unfold NumEnd
  clear hv hx hz ht hl
  generalize lfu z t c lx = r at HE ⊢
  generalize Lif.life c lx = n at HL HE
  generalize Rul.rfor z t = f at HR HE
  obtain ⟨f1, f2, f3⟩ := f
  simp only at HR HE
  obtain ⟨⟨q0, q1, q2, q3, q4, q5, q6⟩, _⟩ := HK.out _ (Below.refl _ _)
  go_enter Tryz.func20, Tryz.ntmps20
  go_wp2_with (fail)
  go_at_call 45
  refine HL.out.mono ?_
  rintro e w1 ⟨rfl, hb1⟩
  clear q0 q1 q2 q3 q4 q5 q6
  obtain ⟨⟨q0, q1, q2, q3, q4, q5, q6⟩, hbw⟩ := HK.out _ hb1
  have HB1 := Lib.hid hbw
  clear hb1 hbw
  go_wp2_with (fail)
  go_at_call 46
  refine (HR.out _ HB1.out).mono ?_
  rintro e w2 ⟨rfl, hb2⟩
  have HB2 := Lib.hid (Base.then_below HB1.out hb2)
  have HB3 := Lib.hid (HB2.out.alloc HB2.out.size (.cells #[.int .i64 f1, .string ⟨f2.toArray⟩, .int .i64 f3] 77))
  clear hb2 q0 q1 q2 q3 q4 q5 q6
  by_cases h2 : f1 = 2
  · subst h2
    go_wp2_with (fail)
    go_at_call 47
    refine (Mm.spec_min _ _ _).mono ?_
    rintro e wm ⟨rfl, rfl⟩
    go_wp2
    go_ret
    exact ⟨ret_n (by rw [HE.out]; rfl), HB3.out⟩
  · go_wp2
    go_ret
    exact ⟨ret_n (by rw [HE.out, if_neg h2]), HB3.out⟩

/-- What an action does with a lifetime; a is one that actionOf gives. -/
def ActOf (f1 f3 : Int) (a : Value) : Prop := (f1 = 2 ∧ a = .iface 128 (.agg #[.int .i64 f3])) ∨ (f1 ≠ 2 ∧ ∃ s : ByteArray, a = .iface 126 (.agg #[.string s]))
theorem impl_act (f1 : Int) (f2 : List UInt8) (f3 : Int) : ∃ a, ActOf f1 f3 a ∧ ∀ w : World, Calls Tryz.prog 50 #[.agg #[.int .i64 f1, .string ⟨f2.toArray⟩, .int .i64 f3]] w fun e w' => e = .returned a ∧ Below w.heap.size w w' := by
  have HB := fun w : World => Lib.hid ((Below.refl w.heap.size w).alloc (Nat.le_refl _) (.cells #[.int .i64 f1, .string ⟨f2.toArray⟩, .int .i64 f3] 77))
  by_cases h1 : f1 = 1
  · subst h1
    refine ⟨_, Or.inr ⟨by decide, ⟨#[112, 97, 115, 115]⟩, rfl⟩, fun w => ?_⟩
    go_enter Tryz.func50, Tryz.ntmps50
    go_wp2
    go_ret
    exact ⟨rfl, (HB w).out⟩
  by_cases h2 : f1 = 2
  · subst h2
    refine ⟨_, Or.inl ⟨rfl, rfl⟩, fun w => ?_⟩
    go_enter Tryz.func50, Tryz.ntmps50
    go_wp2
    go_ret
    exact ⟨rfl, (HB w).out⟩
  by_cases h3 : f1 = 3
  · subst h3
    refine ⟨_, Or.inr ⟨by decide, ⟨#[100, 101, 110, 121]⟩, rfl⟩, fun w => ?_⟩
    go_enter Tryz.func50, Tryz.ntmps50
    go_wp2
    go_ret
    exact ⟨rfl, (HB w).out⟩
  · refine ⟨_, Or.inr ⟨h2, ⟨#[]⟩, rfl⟩, fun w => ?_⟩
    go_enter Tryz.func50, Tryz.ntmps50
    go_wp2
    go_ret
    exact ⟨rfl, (HB w).out⟩

theorem lim_w (s : ByteArray) (n : Int) (w : World) : Calls Tryz.prog 316 #[.agg #[.string s], .int .i64 n] w fun e w' => e = .returned (.int .i64 n) ∧ Below w.heap.size w w' := by
  have HB := Lib.hid ((Below.refl w.heap.size w).alloc (Nat.le_refl _) (.cells #[.string s] 126))
  go_enter Tryz.func316, Tryz.ntmps316
  go_wp2
  go_ret
  exact ⟨rfl, by first | exact HB.out | exact Below.refl _ _⟩
theorem lim_c (k n : Int) (w : World) : Calls Tryz.prog 318 #[.agg #[.int .i64 k], .int .i64 n] w fun e w' => e = .returned (.int .i64 (min n k)) ∧ Below w.heap.size w w' := by
  have HB := Lib.hid ((Below.refl w.heap.size w).alloc (Nat.le_refl _) (.cells #[.int .i64 k] 128))
  go_enter Tryz.func318, Tryz.ntmps318
  go_wp2_with (fail)
  go_at_call 160
  refine (Mm.impl_min _ _ _).mono ?_
  rintro e wm ⟨rfl, rfl⟩
  go_wp2
  go_ret
  exact ⟨rfl, HB.out⟩

theorem quiet_value {P : Program} {o : Oper} {a : Act} {C : World → Prop} {K : Act → Prop} {v : Value} (e : ∀ w, (execOp a.eval o).run P w = .ok (.value v) w) (h : K (a.put o.dst v)) : o.quiet P a C K :=
  ⟨v, fun w _ => by unfold Oper.quietAt; rw [e w]; exact ⟨rfl, rfl⟩, h⟩
theorem quiet_enter {P : Program} {o : Oper} {a : Act} {C : World → Prop} {K : Act → Prop} {v : Value} {f : FuncId} {args : Array Value} (e : ∀ w, (execOp a.eval o).run P w = .ok (.enter f args) w) (hc : ∀ w, C w → Calls P f args w fun e w'' => e = .returned v ∧ C w'') (h : K (a.put o.dst v)) : o.quiet P a C K :=
  ⟨v, fun w hw => by unfold Oper.quietAt; rw [e w]; exact ⟨rfl, hc w hw⟩, h⟩
set_option maxHeartbeats 8000000 in
theorem impl_lfu (v : Value) (B : Nat) (z : List Rul.T) (m h t : List UInt8) (u : Value) (c : Int) (x : Value) (lx : List Flds.Fld) (b : List UInt8) (w : World) (hv : Rul.Holds w B v z) (hx : Flds.Holds w B x lx) (hB : B ≤ w.heap.size) (hz : Rul.total z ≤ 1048576) (ht : t.length ≤ 1048576) (hl : Flds.total lx ≤ 1048576) (htb : Age.Tabs w) (hde : Dir.Errs w) (hpe : Par.Errs w) (hmx : Sh.MxL w) :
    Calls Tryz.prog 24 #[v, .agg #[.string ⟨m.toArray⟩, .string ⟨h.toArray⟩, .string ⟨t.toArray⟩, u], .agg #[.int .i64 c, x, .string ⟨b.toArray⟩]] w (NumEnd (lfu z t c lx) w) := by
  have HB0 : Hid (Below w.heap.size w ((w.alloc (.cells #[.string ⟨m.toArray⟩, .string ⟨h.toArray⟩, .string ⟨t.toArray⟩, u] 46)).alloc (.cells #[.int .i64 c, x, .string ⟨b.toArray⟩] 49))) := Lib.hid (((Below.refl _ _).alloc (Nat.le_refl _) _).alloc (by simp) _)
  have HK : Hid (∀ W, Below ((w.alloc (.cells #[.string ⟨m.toArray⟩, .string ⟨h.toArray⟩, .string ⟨t.toArray⟩, u] 46)).alloc (.cells #[.int .i64 c, x, .string ⟨b.toArray⟩] 49)).heap.size ((w.alloc (.cells #[.string ⟨m.toArray⟩, .string ⟨h.toArray⟩, .string ⟨t.toArray⟩, u] 46)).alloc (.cells #[.int .i64 c, x, .string ⟨b.toArray⟩] 49)) W → (W.cell? ⟨w.heap.size, 0, none⟩ = some (.string ⟨m.toArray⟩) ∧ W.cell? ⟨w.heap.size, 1, none⟩ = some (.string ⟨h.toArray⟩) ∧ W.cell? ⟨w.heap.size, 2, none⟩ = some (.string ⟨t.toArray⟩) ∧ W.cell? ⟨w.heap.size, 3, none⟩ = some (u) ∧ W.cell? ⟨w.heap.size + 1, 0, none⟩ = some (.int .i64 c) ∧ W.cell? ⟨w.heap.size + 1, 1, none⟩ = some (x) ∧ W.cell? ⟨w.heap.size + 1, 2, none⟩ = some (.string ⟨b.toArray⟩)) ∧ Below w.heap.size w W) := Lib.hid (fun W hb => by
    have h2 := (Kept.Box.new (w := w.alloc (.cells #[.string ⟨m.toArray⟩, .string ⟨h.toArray⟩, .string ⟨t.toArray⟩, u] 46)) (T := 49) (a := #[.int .i64 c, x, .string ⟨b.toArray⟩])).below hb
    rw [show (w.alloc (.cells #[.string ⟨m.toArray⟩, .string ⟨h.toArray⟩, .string ⟨t.toArray⟩, u] 46)).heap.size = w.heap.size + 1 by simp] at h2
    have h1 := ((Kept.Box.new (w := w) (T := 46) (a := #[.string ⟨m.toArray⟩, .string ⟨h.toArray⟩, .string ⟨t.toArray⟩, u])).alloc (.cells #[.int .i64 c, x, .string ⟨b.toArray⟩] 49)).below hb
    exact ⟨⟨h1.cell 0 _ rfl, h1.cell 1 _ rfl, h1.cell 2 _ rfl, h1.cell 3 _ rfl, h2.cell 0 _ rfl, h2.cell 1 _ rfl, h2.cell 2 _ rfl⟩, HB0.out.trans (hb.mono HB0.out.size)⟩)
  have HL := Lib.hid (fun (U : RegS.In (fun U : World => Below ((w.alloc (.cells #[.string ⟨m.toArray⟩, .string ⟨h.toArray⟩, .string ⟨t.toArray⟩, u] 46)).alloc (.cells #[.int .i64 c, x, .string ⟨b.toArray⟩] 49)).heap.size ((w.alloc (.cells #[.string ⟨m.toArray⟩, .string ⟨h.toArray⟩, .string ⟨t.toArray⟩, u] 46)).alloc (.cells #[.int .i64 c, x, .string ⟨b.toArray⟩] 49)) U)) => Lif.impl_life c x B lx b U.w (Flds.holds_below hx ((HK.out _ U.h).2.mono hB)) (Nat.le_trans hB (HK.out _ U.h).2.size) hl (Age.tabs_below htb (HK.out _ U.h).2) (Dir.errs_below hde (HK.out _ U.h).2))
  have HR := Lib.hid (fun (U : RegS.In (fun U : World => Below ((w.alloc (.cells #[.string ⟨m.toArray⟩, .string ⟨h.toArray⟩, .string ⟨t.toArray⟩, u] 46)).alloc (.cells #[.int .i64 c, x, .string ⟨b.toArray⟩] 49)).heap.size ((w.alloc (.cells #[.string ⟨m.toArray⟩, .string ⟨h.toArray⟩, .string ⟨t.toArray⟩, u] 46)).alloc (.cells #[.int .i64 c, x, .string ⟨b.toArray⟩] 49)) U)) => Rul.impl_rf v B z m h t u U.w (Rul.holds_below hv ((HK.out _ U.h).2.mono hB)) (Nat.le_trans hB (HK.out _ U.h).2.size) hz ht (Par.errs_below hpe (HK.out _ U.h).2) (Sh.mxl_below hmx (HK.out _ U.h).2))
  have HE : Hid (lfu z t c lx = if (Rul.rfor z t).1 = 2 then min (Lif.life c lx) (Rul.rfor z t).2.2 else Lif.life c lx) := Lib.hid rfl
  unfold Lif.NumEnd at HL
  unfold Rul.RfEnd at HR
  unfold NumEnd
  clear hv hx hz ht hl htb hde hpe hmx
  generalize lfu z t c lx = r at HE ⊢
  generalize Lif.life c lx = n at HL HE
  generalize Rul.rfor z t = f at HR HE
  obtain ⟨f1, f2, f3⟩ := f
  simp only at HR HE
  obtain ⟨a, ha, hA⟩ := impl_act f1 f2 f3
  have HA := Lib.hid hA
  have SK : Hid (∀ {U U' : World}, Below ((w.alloc (.cells #[.string ⟨m.toArray⟩, .string ⟨h.toArray⟩, .string ⟨t.toArray⟩, u] 46)).alloc (.cells #[.int .i64 c, x, .string ⟨b.toArray⟩] 49)).heap.size ((w.alloc (.cells #[.string ⟨m.toArray⟩, .string ⟨h.toArray⟩, .string ⟨t.toArray⟩, u] 46)).alloc (.cells #[.int .i64 c, x, .string ⟨b.toArray⟩] 49)) U → Below U.heap.size U U' → Below ((w.alloc (.cells #[.string ⟨m.toArray⟩, .string ⟨h.toArray⟩, .string ⟨t.toArray⟩, u] 46)).alloc (.cells #[.int .i64 c, x, .string ⟨b.toArray⟩] 49)).heap.size ((w.alloc (.cells #[.string ⟨m.toArray⟩, .string ⟨h.toArray⟩, .string ⟨t.toArray⟩, u] 46)).alloc (.cells #[.int .i64 c, x, .string ⟨b.toArray⟩] 49)) U') := Lib.hid (fun h hb => h.trans (hb.mono h.size))
  have HSD : Hid (Below ((w.alloc (.cells #[.string ⟨m.toArray⟩, .string ⟨h.toArray⟩, .string ⟨t.toArray⟩, u] 46)).alloc (.cells #[.int .i64 c, x, .string ⟨b.toArray⟩] 49)).heap.size ((w.alloc (.cells #[.string ⟨m.toArray⟩, .string ⟨h.toArray⟩, .string ⟨t.toArray⟩, u] 46)).alloc (.cells #[.int .i64 c, x, .string ⟨b.toArray⟩] 49)) ((w.alloc (.cells #[.string ⟨m.toArray⟩, .string ⟨h.toArray⟩, .string ⟨t.toArray⟩, u] 46)).alloc (.cells #[.int .i64 c, x, .string ⟨b.toArray⟩] 49)).drew) := Lib.hid (Rec.below_drew (Below.refl _ _))
  have ec0 : ∀ U : RegS.In (fun U : World => Below ((w.alloc (.cells #[.string ⟨m.toArray⟩, .string ⟨h.toArray⟩, .string ⟨t.toArray⟩, u] 46)).alloc (.cells #[.int .i64 c, x, .string ⟨b.toArray⟩] 49)).heap.size ((w.alloc (.cells #[.string ⟨m.toArray⟩, .string ⟨h.toArray⟩, .string ⟨t.toArray⟩, u] 46)).alloc (.cells #[.int .i64 c, x, .string ⟨b.toArray⟩] 49)) U), U.w.cell? ⟨w.heap.size, 0, none⟩ = some (.string ⟨m.toArray⟩) := fun U => (HK.out _ U.h).1.1
  have ec1 : ∀ U : RegS.In (fun U : World => Below ((w.alloc (.cells #[.string ⟨m.toArray⟩, .string ⟨h.toArray⟩, .string ⟨t.toArray⟩, u] 46)).alloc (.cells #[.int .i64 c, x, .string ⟨b.toArray⟩] 49)).heap.size ((w.alloc (.cells #[.string ⟨m.toArray⟩, .string ⟨h.toArray⟩, .string ⟨t.toArray⟩, u] 46)).alloc (.cells #[.int .i64 c, x, .string ⟨b.toArray⟩] 49)) U), U.w.cell? ⟨w.heap.size, 1, none⟩ = some (.string ⟨h.toArray⟩) := fun U => (HK.out _ U.h).1.2.1
  have ec2 : ∀ U : RegS.In (fun U : World => Below ((w.alloc (.cells #[.string ⟨m.toArray⟩, .string ⟨h.toArray⟩, .string ⟨t.toArray⟩, u] 46)).alloc (.cells #[.int .i64 c, x, .string ⟨b.toArray⟩] 49)).heap.size ((w.alloc (.cells #[.string ⟨m.toArray⟩, .string ⟨h.toArray⟩, .string ⟨t.toArray⟩, u] 46)).alloc (.cells #[.int .i64 c, x, .string ⟨b.toArray⟩] 49)) U), U.w.cell? ⟨w.heap.size, 2, none⟩ = some (.string ⟨t.toArray⟩) := fun U => (HK.out _ U.h).1.2.2.1
  have ec3 : ∀ U : RegS.In (fun U : World => Below ((w.alloc (.cells #[.string ⟨m.toArray⟩, .string ⟨h.toArray⟩, .string ⟨t.toArray⟩, u] 46)).alloc (.cells #[.int .i64 c, x, .string ⟨b.toArray⟩] 49)).heap.size ((w.alloc (.cells #[.string ⟨m.toArray⟩, .string ⟨h.toArray⟩, .string ⟨t.toArray⟩, u] 46)).alloc (.cells #[.int .i64 c, x, .string ⟨b.toArray⟩] 49)) U), U.w.cell? ⟨w.heap.size, 3, none⟩ = some (u) := fun U => (HK.out _ U.h).1.2.2.2.1
  have ec4 : ∀ U : RegS.In (fun U : World => Below ((w.alloc (.cells #[.string ⟨m.toArray⟩, .string ⟨h.toArray⟩, .string ⟨t.toArray⟩, u] 46)).alloc (.cells #[.int .i64 c, x, .string ⟨b.toArray⟩] 49)).heap.size ((w.alloc (.cells #[.string ⟨m.toArray⟩, .string ⟨h.toArray⟩, .string ⟨t.toArray⟩, u] 46)).alloc (.cells #[.int .i64 c, x, .string ⟨b.toArray⟩] 49)) U), U.w.cell? ⟨w.heap.size + 1, 0, none⟩ = some (.int .i64 c) := fun U => (HK.out _ U.h).1.2.2.2.2.1
  have ec5 : ∀ U : RegS.In (fun U : World => Below ((w.alloc (.cells #[.string ⟨m.toArray⟩, .string ⟨h.toArray⟩, .string ⟨t.toArray⟩, u] 46)).alloc (.cells #[.int .i64 c, x, .string ⟨b.toArray⟩] 49)).heap.size ((w.alloc (.cells #[.string ⟨m.toArray⟩, .string ⟨h.toArray⟩, .string ⟨t.toArray⟩, u] 46)).alloc (.cells #[.int .i64 c, x, .string ⟨b.toArray⟩] 49)) U), U.w.cell? ⟨w.heap.size + 1, 1, none⟩ = some (x) := fun U => (HK.out _ U.h).1.2.2.2.2.2.1
  have ec6 : ∀ U : RegS.In (fun U : World => Below ((w.alloc (.cells #[.string ⟨m.toArray⟩, .string ⟨h.toArray⟩, .string ⟨t.toArray⟩, u] 46)).alloc (.cells #[.int .i64 c, x, .string ⟨b.toArray⟩] 49)).heap.size ((w.alloc (.cells #[.string ⟨m.toArray⟩, .string ⟨h.toArray⟩, .string ⟨t.toArray⟩, u] 46)).alloc (.cells #[.int .i64 c, x, .string ⟨b.toArray⟩] 49)) U), U.w.cell? ⟨w.heap.size + 1, 2, none⟩ = some (.string ⟨b.toArray⟩) := fun U => (HK.out _ U.h).1.2.2.2.2.2.2
  have HV : Hid (∃ d : Int, r = d ∧ ((a = .iface 128 (.agg #[.int .i64 f3]) ∧ d = min n f3) ∨ (∃ s : ByteArray, a = .iface 126 (.agg #[.string s]) ∧ d = n))) := Lib.hid (by
    rcases ha with ⟨h2, rfl⟩ | ⟨h2, s, rfl⟩
    · exact ⟨_, by rw [HE.out, if_pos h2], Or.inl ⟨rfl, rfl⟩⟩
    · exact ⟨_, by rw [HE.out, if_neg h2], Or.inr ⟨s, rfl, rfl⟩⟩)
  have hmf : ∀ (fn : Fn) (first cap : Array Value) (w : World), (Instr.makeFunc fn first cap).run Tryz.prog w = .ok (.func fn first cap) w := fun _ _ _ _ => rfl
  obtain ⟨d, rfl, hd⟩ := HV.out
  clear HV HE ha hA
  rcases hd with ⟨rfl, rfl⟩ | ⟨s, rfl, hdn⟩
  · have HM := Lib.hid (fun W => lim_c f3 n W)
    go_enter Tryz.func24, Tryz.ntmps24
    go_wp2
    refine RegS.region (fun U : World => Below ((w.alloc (.cells #[.string ⟨m.toArray⟩, .string ⟨h.toArray⟩, .string ⟨t.toArray⟩, u] 46)).alloc (.cells #[.int .i64 c, x, .string ⟨b.toArray⟩] 49)).heap.size ((w.alloc (.cells #[.string ⟨m.toArray⟩, .string ⟨h.toArray⟩, .string ⟨t.toArray⟩, u] 46)).alloc (.cells #[.int .i64 c, x, .string ⟨b.toArray⟩] 49)) U) (by kernel_rfl) (by kernel_rfl) HSD.out ?_
    haveI : Nonempty (RegS.In (fun U : World => Below ((w.alloc (.cells #[.string ⟨m.toArray⟩, .string ⟨h.toArray⟩, .string ⟨t.toArray⟩, u] 46)).alloc (.cells #[.int .i64 c, x, .string ⟨b.toArray⟩] 49)).heap.size ((w.alloc (.cells #[.string ⟨m.toArray⟩, .string ⟨h.toArray⟩, .string ⟨t.toArray⟩, u] 46)).alloc (.cells #[.int .i64 c, x, .string ⟨b.toArray⟩] 49)) U)) := ⟨⟨_, HSD.out⟩⟩
    repeat (first | go_big_quiet_step ((first | (go_at_call 51; with_reducible exact RegS.call (HR.out _) (fun e w' he => ⟨he.1, SK.out (RegS.In.h _) he.2⟩)) | (go_at_call 50; with_reducible exact RegS.call (HA.out _) (fun e w' he => ⟨he.1, SK.out (RegS.In.h _) he.2⟩)) | (go_at_call 52; with_reducible exact RegS.call (HL.out _) (fun e w' he => ⟨he.1, SK.out (RegS.In.h _) he.2⟩)))) | quiet_step ((first | (go_at_call 51; with_reducible exact RegS.call (HR.out _) (fun e w' he => ⟨he.1, SK.out (RegS.In.h _) he.2⟩)) | (go_at_call 50; with_reducible exact RegS.call (HA.out _) (fun e w' he => ⟨he.1, SK.out (RegS.In.h _) he.2⟩)) | (go_at_call 52; with_reducible exact RegS.call (HL.out _) (fun e w' he => ⟨he.1, SK.out (RegS.In.h _) he.2⟩)))))
    refine BigFrame.wpQuiet_want rfl (fun K hK => quiet_value (v := (.func (.method "loop.example/g03012/impl.limit") #[.iface 128 (.agg #[.int .i64 f3])] #[])) (fun w => by kernel_rfl) (hK _ ?_))
    clear hK K
    refine BigFrame.wpQuiet_want rfl (fun K hK => quiet_value (v := (.func (.method "loop.example/g03012/impl.limit") #[.iface 128 (.agg #[.int .i64 f3])] #[])) (fun w => by kernel_rfl) (hK _ ?_))
    clear hK K
    refine BigFrame.wpQuiet_want rfl (fun K hK => quiet_value (v := .iface 128 (.agg #[.int .i64 f3])) (fun w => by kernel_rfl) (hK _ ?_))
    clear hK K
    refine BigFrame.wpQuiet_want rfl (fun K hK => quiet_enter (v := (.int .i64 (min n f3))) (f := 318) (args := #[.agg #[.int .i64 f3], .int .i64 n]) (fun w => by kernel_rfl) (fun W hW => ?_) (hK _ ?_))
    · obtain ⟨U, rfl⟩ := hW
      exact (HM.out U.w).mono fun e w' he => ⟨he.1, ⟨w', SK.out U.h he.2⟩, rfl⟩
    clear hK K
    refine BigFrame.wpQuiet_want rfl (fun K hK => quiet_value (v := (.int .i64 (min n f3))) (fun w => by kernel_rfl) (hK _ ?_))
    clear hK K
    refine wpQuiet_nil ?_
    intro wz0 hw'
    obtain ⟨⟨wq, hS⟩, hw''⟩ := hw'
    subst hw''
    have HBZ := Lib.hid (HK.out _ hS).2
    clear hS
    go_wp2
    go_ret
    exact ⟨rfl, HBZ.out⟩
  · obtain rfl : n = r := hdn.symm
    have HM := Lib.hid (fun W => lim_w s n W)
    go_enter Tryz.func24, Tryz.ntmps24
    go_wp2
    refine RegS.region (fun U : World => Below ((w.alloc (.cells #[.string ⟨m.toArray⟩, .string ⟨h.toArray⟩, .string ⟨t.toArray⟩, u] 46)).alloc (.cells #[.int .i64 c, x, .string ⟨b.toArray⟩] 49)).heap.size ((w.alloc (.cells #[.string ⟨m.toArray⟩, .string ⟨h.toArray⟩, .string ⟨t.toArray⟩, u] 46)).alloc (.cells #[.int .i64 c, x, .string ⟨b.toArray⟩] 49)) U) (by kernel_rfl) (by kernel_rfl) HSD.out ?_
    haveI : Nonempty (RegS.In (fun U : World => Below ((w.alloc (.cells #[.string ⟨m.toArray⟩, .string ⟨h.toArray⟩, .string ⟨t.toArray⟩, u] 46)).alloc (.cells #[.int .i64 c, x, .string ⟨b.toArray⟩] 49)).heap.size ((w.alloc (.cells #[.string ⟨m.toArray⟩, .string ⟨h.toArray⟩, .string ⟨t.toArray⟩, u] 46)).alloc (.cells #[.int .i64 c, x, .string ⟨b.toArray⟩] 49)) U)) := ⟨⟨_, HSD.out⟩⟩
    repeat (first | go_big_quiet_step ((first | (go_at_call 51; with_reducible exact RegS.call (HR.out _) (fun e w' he => ⟨he.1, SK.out (RegS.In.h _) he.2⟩)) | (go_at_call 50; with_reducible exact RegS.call (HA.out _) (fun e w' he => ⟨he.1, SK.out (RegS.In.h _) he.2⟩)) | (go_at_call 52; with_reducible exact RegS.call (HL.out _) (fun e w' he => ⟨he.1, SK.out (RegS.In.h _) he.2⟩)))) | quiet_step ((first | (go_at_call 51; with_reducible exact RegS.call (HR.out _) (fun e w' he => ⟨he.1, SK.out (RegS.In.h _) he.2⟩)) | (go_at_call 50; with_reducible exact RegS.call (HA.out _) (fun e w' he => ⟨he.1, SK.out (RegS.In.h _) he.2⟩)) | (go_at_call 52; with_reducible exact RegS.call (HL.out _) (fun e w' he => ⟨he.1, SK.out (RegS.In.h _) he.2⟩)))))
    refine BigFrame.wpQuiet_want rfl (fun K hK => quiet_value (v := (.func (.method "loop.example/g03012/impl.limit") #[.iface 126 (.agg #[.string s])] #[])) (fun w => by kernel_rfl) (hK _ ?_))
    clear hK K
    refine BigFrame.wpQuiet_want rfl (fun K hK => quiet_value (v := (.func (.method "loop.example/g03012/impl.limit") #[.iface 126 (.agg #[.string s])] #[])) (fun w => by kernel_rfl) (hK _ ?_))
    clear hK K
    refine BigFrame.wpQuiet_want rfl (fun K hK => quiet_value (v := .iface 126 (.agg #[.string s])) (fun w => by kernel_rfl) (hK _ ?_))
    clear hK K
    refine BigFrame.wpQuiet_want rfl (fun K hK => quiet_enter (v := (.int .i64 n)) (f := 316) (args := #[.agg #[.string s], .int .i64 n]) (fun w => by kernel_rfl) (fun W hW => ?_) (hK _ ?_))
    · obtain ⟨U, rfl⟩ := hW
      exact (HM.out U.w).mono fun e w' he => ⟨he.1, ⟨w', SK.out U.h he.2⟩, rfl⟩
    clear hK K
    refine BigFrame.wpQuiet_want rfl (fun K hK => quiet_value (v := (.int .i64 n)) (fun w => by kernel_rfl) (hK _ ?_))
    clear hK K
    refine wpQuiet_nil ?_
    intro wz0 hw'
    obtain ⟨⟨wq, hS⟩, hw''⟩ := hw'
    subst hw''
    have HBZ := Lib.hid (HK.out _ hS).2
    clear hS
    go_wp2
    go_ret
    exact ⟨rfl, HBZ.out⟩
end Go.Proofs.YtidmppphlcfpjaaGreatDoor.Lfu

/-
  FROM A ROW's LISTED VARIABLES to what the contracts ask of the world: the library's table of powers of ten, wherever it stands on the list.
-/
namespace Go.Proofs.YtidmppphlcfpjaaGreatDoor.Laid
open Go
set_option linter.unusedVariables false
set_option maxRecDepth 1000000

theorem of_vars {P : Program} {w : World} : ∀ {l : List (String × DataW Unit)} {ps : List MemPlace}, DataW.LaidVars P w l ps → ∀ n d, (n, d) ∈ l →
    ∃ g t cs fuel p, P.globalNamed n = some g ∧ (P.globals[g]?).map (·.type) = some t ∧ w.var? P n = some cs ∧ DataW.trod (fun _ => ()) P w 0 (fun _ => true) false fuel t cs.toList = some (d, p)
  | [], _, _, _, _, hm => by cases hm
  | (n', d') :: r, ps, h, n, d, hm => by
    obtain ⟨g, t, cs, fuel, p, q, h1, h2, h3, h4, h5, _⟩ := h
    rcases List.mem_cons.1 hm with e | e
    · cases e
      exact ⟨g, t, cs, fuel, p, h1, h2, h3, h4⟩
    · exact of_vars h5 n d e
theorem tens_datum : (Rows.laid_internal_strconv_uint64pow10 : DataW Unit) = Lib.tabData .u64 Lib.pow10Tab := by kernel_rfl
theorem tens {l : List (String × DataW Unit)} {W : World} (h : laidMet Tryz.prog l W) (hm : ("internal/strconv.uint64pow10", Rows.laid_internal_strconv_uint64pow10) ∈ l) : Fmt.Tens W := by
  obtain ⟨ps, hv, _⟩ := h
  obtain ⟨g, t, cs, fuel, p, hg, ht, hvar, hd⟩ := of_vars hv _ _ hm
  obtain rfl := Option.some.inj ((show Tryz.prog.globalNamed "internal/strconv.uint64pow10" = some 11 by kernel_rfl).symm.trans hg)
  obtain rfl := Option.some.inj ((show (Tryz.prog.globals[11]?).map (·.type) = some 272 by kernel_rfl).symm.trans ht)
  rw [tens_datum] at hd
  unfold Fmt.Tens Lib.TabIs
  rw [hvar, ← Lib.cells_of_tab Tryz.underlying272 Tryz.underlying177 (by kernel_rfl) (by kernel_rfl) hd]
end Go.Proofs.YtidmppphlcfpjaaGreatDoor.Laid
