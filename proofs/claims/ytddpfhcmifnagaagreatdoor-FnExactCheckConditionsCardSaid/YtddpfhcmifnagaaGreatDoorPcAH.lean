/-
  CONTRACTS AND PLAIN FACTS, several texts in one; each says in its own words what it proves.
-/
import Derived.Test.YtddpfhcmifnagaaGreatDoorPcAF
import Derived.Test.YtddpfhcmifnagaaGreatDoorPcN

/-
  CONTRACT of the model's l17Any; nothing that was there before is changed.
-/
namespace Go.Proofs.YtddpfhcmifnagaaGreatDoor.Cnd
open Go Go.RowKit
set_option linter.unusedVariables false
set_option maxRecDepth 1000000

def GrowT (w wr w' : World) : Prop := Below wr.heap.size wr w' ∧ Below w.heap.size w w'
theorem growt_start {w wr : World} (hb : Below w.heap.size w wr) : GrowT w wr wr.drew := ⟨Rec.below_drew (Below.refl _ _), Rec.below_drew hb⟩
theorem growt_call {w wr w0 w1 : World} (h : GrowT w wr w0) (hb : Below w0.heap.size w0 w1) : GrowT w wr w1 := ⟨h.1.trans (hb.mono h.1.size), Base.then_below h.2 hb⟩
theorem growt_old {w wr w' : World} (h : GrowT w wr w') {b o : Nat} {u : Value} (hc : wr.cell? ⟨b, o, none⟩ = some u) : w'.cell? ⟨b, o, none⟩ = some u := by
  rw [h.1.cell (p := ⟨b, o, none⟩) (Rec.lt_of_cell hc)]; exact hc
def AnyEnd (p : Bool × Bool) (w : World) (e : Ending) (w' : World) : Prop := e = .returned (.tuple #[.bool p.1, .bool p.2]) ∧ Below w.heap.size w w'
theorem ret_2 {a b c d : Bool} (h : a = c) (h2 : b = d) : Ending.returned (.tuple #[.bool a, .bool b]) = .returned (.tuple #[.bool c, .bool d]) := by rw [h, h2]
/-- Whether the list of a field has the tag or is a star, and whether it cannot be read. -/
def anyOf (sm : G → G → Bool) (s : List UInt8) (tg : G) (hs : Bool) : Bool × Bool := ((Tgs.ptl s).2.2 && ((Tgs.ptl s).2.1 || (hs && (Tgs.ptl s).1.any (fun t => sm t tg))), !(Tgs.ptl s).2.2)

set_option maxHeartbeats 8000000 in
theorem spec_any_strong (s : List UInt8) (ux : Bool) (vx : List UInt8) (hs : Bool) (w : World) (hl : s.length ≤ 1048576) :
    Calls Tryz.prog 38 #[.string ⟨s.toArray⟩, .agg #[.bool ux, .string ⟨vx.toArray⟩], .bool hs, .bool true] w (AnyEnd (anyOf Tgs.samestrong s (ux, vx) hs) w) := by
  have hb0 : Below w.heap.size w (w.alloc (.cells #[.bool ux, .string ⟨vx.toArray⟩] 62)) := (Below.refl _ _).alloc (Nat.le_refl _) _
  have HB0 := Lib.hid hb0
  have HP := Lib.hid (fun W => Tgs.spec_lst s W hl)
  have HLN := Lib.hid (Tgs.ptl_len s)
  have HK : Hid (∀ W, Below (w.alloc (.cells #[.bool ux, .string ⟨vx.toArray⟩] 62)).heap.size (w.alloc (.cells #[.bool ux, .string ⟨vx.toArray⟩] 62)) W → W.cell? ⟨w.heap.size, 0, none⟩ = some (.bool ux) ∧ W.cell? ⟨w.heap.size, 1, none⟩ = some (.string ⟨vx.toArray⟩)) := Lib.hid (fun W hb => And.intro ((Kept.one hb).1 0 _ rfl) ((Kept.one hb).1 1 _ rfl))
  have HO : Hid (anyOf Tgs.samestrong s (ux, vx) hs = ((Tgs.ptl s).2.2 && ((Tgs.ptl s).2.1 || (hs && (Tgs.ptl s).1.any (fun t => Tgs.samestrong t (ux, vx)))), !(Tgs.ptl s).2.2)) := Lib.hid rfl
  unfold Tgs.LstEnd at HP
  unfold AnyEnd
  generalize anyOf Tgs.samestrong s (ux, vx) hs = z at HO ⊢
  generalize Tgs.ptl s = p at HP HLN HO
  obtain ⟨L, anyT, ok⟩ := p
  simp only at HP HLN HO
  clear hb0 hl
  go_enter Tryz.func38, Tryz.ntmps38
  go_wp2_with (fail)
  go_at_call 65
  refine (HP.out _).mono ?_
  rintro e w1 ⟨vL, rfl, oL, hb1⟩
  have HR1 := Lib.hid hb1
  have HB1 := Lib.hid (HB0.out.trans (hb1.mono HB0.out.size))
  obtain ⟨aL, cL, hve, ha⟩ := shape_t (Tgs.own_holds oL)
  subst hve
  have HA := Lib.hid ha
  clear hb1 oL ha
  cases ok with
  | false =>
    have HF : Hid (z = (false, true)) := Lib.hid (by rw [HO.out]; simp)
    go_wp2
    go_ret2
    exact ⟨by obtain rfl := HF.out; rfl, HB1.out⟩
  | true =>
  cases hs with
  | false =>
    have HF : Hid (z = (anyT, false)) := Lib.hid (by rw [HO.out]; simp)
    go_wp2
    go_loop [13] (fun i => i = .int .i64 0) (fun _ => 0)
    case atStart => rfl
    case round =>
      obtain rfl := hrel
      by_cases h0 : 0 < (L.length : Int)
      all_goals (
        go_wp2
        go_ret2
        exact ⟨by obtain rfl := HF.out; rfl, HB1.out⟩)
  | true =>
    have HF : Hid (z = (anyT || L.any (fun t => Tgs.samestrong t (ux, vx)), false)) := Lib.hid (by rw [HO.out]; simp)
    clear HO HP
    go_wp2
    go_loopw [13] (fun i wr => ∃ k : Nat, k ≤ L.length ∧ i = .int .i64 (k : Int) ∧ Hid ((L.take k).any (fun t => Tgs.samestrong t (ux, vx)) = false) ∧ Hid (Below (w.alloc (.cells #[.bool ux, .string ⟨vx.toArray⟩] 62)).heap.size (w.alloc (.cells #[.bool ux, .string ⟨vx.toArray⟩] 62)) wr) ∧ Hid (Below w1.heap.size w1 wr)) (fun i _ => L.length - (intOf i).toNat)
    case atStart => exact ⟨0, Nat.zero_le _, rfl, Lib.hid (by simp), HR1, Lib.hid (Below.refl _ _)⟩
    case round =>
      obtain ⟨k, hk, rfl, HN, HR, HRW⟩ := hrel
      have HB := Lib.hid (HB0.out.trans (HR.out.mono HB0.out.size))
      by_cases hlt : k < L.length
      · obtain ⟨b, off, rfl, hbl, _, hat⟩ := HA.out (by omega)
        obtain ⟨c0, c1⟩ := Tgs.at_cells (Tgs.at_below hat HRW.out hbl) hlt
        obtain ⟨t0, t1⟩ := HK.out _ HR.out
        have HM := Lib.hid (any_more (p := fun t => Tgs.samestrong t (ux, vx)) hlt HN.out)
        have HH := Lib.hid (any_hit (p := fun t => Tgs.samestrong t (ux, vx)) hlt)
        generalize L.getD k Tgs.nov = f at c0 c1 HM HH
        obtain ⟨x, y⟩ := f
        simp only at c0 c1
        have HCB : Hid (∀ W, Calls Tryz.prog 66 #[.agg #[.bool x, .string ⟨y.toArray⟩], .agg #[.bool ux, .string ⟨vx.toArray⟩]] W fun e w' => e = .returned (.bool (Tgs.samestrong (x, y) (ux, vx))) ∧ Below W.heap.size W w') := Lib.hid (fun W => Tgs.spec_strong x y ux vx W)
        have HSD := Lib.hid (growt_start HB.out)
        have hSZ : wr.drew.heap.size = wr.heap.size := rfl
        have SK : Hid (∀ w0 w1 : World, GrowT w wr w0 → Below w0.heap.size w0 w1 → GrowT w wr w1) := Lib.hid (fun _ _ h hb => growt_call h hb)
        have f0 : ∀ q : RegS.In (GrowT w wr), q.w.cell? ⟨b, off + k * 2, none⟩ = some (.bool x) := fun q => growt_old q.h c0
        have f1 : ∀ q : RegS.In (GrowT w wr), q.w.cell? ⟨b, off + k * 2 + 1, none⟩ = some (.string ⟨y.toArray⟩) := fun q => growt_old q.h c1
        have f2 : ∀ q : RegS.In (GrowT w wr), q.w.cell? ⟨w.heap.size, 0, none⟩ = some (.bool ux) := fun q => growt_old q.h t0
        have f3 : ∀ q : RegS.In (GrowT w wr), q.w.cell? ⟨w.heap.size, 1, none⟩ = some (.string ⟨vx.toArray⟩) := fun q => growt_old q.h t1
        have hki : (k : Int) < (L.length : Int) := by omega
        have hLL := HLN.out
        generalize hq : Tgs.samestrong (x, y) (ux, vx) = q at HCB
        have HQ := Lib.hid hq
        clear hq c0 c1 t0 t1 hat
        cases q
        · have HX := Lib.hid (HM.out HQ.out)
          clear HM HH
          go_wp2
          refine RegS.region (GrowT w wr) (by kernel_rfl) (by kernel_rfl) HSD.out ?_
          haveI : Nonempty (RegS.In (GrowT w wr)) := ⟨⟨_, HSD.out⟩⟩
          repeat (first | go_big_quiet_step ((go_at_call 66; with_reducible exact RegS.call (HCB.out _) (fun e w' he => ⟨he.1, SK.out _ _ (RegS.In.h _) he.2⟩))) | quiet_step ((go_at_call 66; with_reducible exact RegS.call (HCB.out _) (fun e w' he => ⟨he.1, SK.out _ _ (RegS.In.h _) he.2⟩))))
          refine wpQuiet_nil ?_
          intro _ hw'
          obtain ⟨⟨wz, hS⟩, hw''⟩ := hw'
          subst hw''
          have HBB := Lib.hid hS.2
          have HBR := Lib.hid (HR.out.trans (hS.1.mono HR.out.size))
          have HRW2 := Lib.hid (HRW.out.trans (hS.1.mono HRW.out.size))
          clear hS
          go_wp2
          go_roundw
          case rel => exact ⟨k + 1, by omega, by go_num, HX, HBR, HRW2⟩
          case measure => simp [intOf]; omega
        · have HX : Hid (z = (true, false)) := Lib.hid (by rw [HF.out, HH.out HQ.out]; simp)
          clear HM HH
          go_wp2
          refine RegS.region (GrowT w wr) (by kernel_rfl) (by kernel_rfl) HSD.out ?_
          haveI : Nonempty (RegS.In (GrowT w wr)) := ⟨⟨_, HSD.out⟩⟩
          repeat (first | go_big_quiet_step ((go_at_call 66; with_reducible exact RegS.call (HCB.out _) (fun e w' he => ⟨he.1, SK.out _ _ (RegS.In.h _) he.2⟩))) | quiet_step ((go_at_call 66; with_reducible exact RegS.call (HCB.out _) (fun e w' he => ⟨he.1, SK.out _ _ (RegS.In.h _) he.2⟩))))
          refine wpQuiet_nil ?_
          intro _ hw'
          obtain ⟨⟨wz, hS⟩, hw''⟩ := hw'
          subst hw''
          have HBB := Lib.hid hS.2
          have HBR := Lib.hid (HR.out.trans (hS.1.mono HR.out.size))
          have HRW2 := Lib.hid (HRW.out.trans (hS.1.mono HRW.out.size))
          clear hS
          go_wp2
          go_ret2
          exact ⟨by obtain rfl := HX.out; rfl, HBB.out⟩
      · have HX : Hid (z = (anyT, false)) := Lib.hid (by
          have h9 := HN.out
          rw [List.take_of_length_le (by omega)] at h9
          rw [HF.out, h9]; simp)
        go_wp2
        go_ret2
        exact ⟨by obtain rfl := HX.out; rfl, HB.out⟩

set_option maxHeartbeats 8000000 in
theorem spec_any_weak (s : List UInt8) (ux : Bool) (vx : List UInt8) (hs : Bool) (w : World) (hl : s.length ≤ 1048576) :
    Calls Tryz.prog 38 #[.string ⟨s.toArray⟩, .agg #[.bool ux, .string ⟨vx.toArray⟩], .bool hs, .bool false] w (AnyEnd (anyOf Tgs.sameweak s (ux, vx) hs) w) := by
  have hb0 : Below w.heap.size w (w.alloc (.cells #[.bool ux, .string ⟨vx.toArray⟩] 62)) := (Below.refl _ _).alloc (Nat.le_refl _) _
  have HB0 := Lib.hid hb0
  have HP := Lib.hid (fun W => Tgs.spec_lst s W hl)
  have HLN := Lib.hid (Tgs.ptl_len s)
  have HK : Hid (∀ W, Below (w.alloc (.cells #[.bool ux, .string ⟨vx.toArray⟩] 62)).heap.size (w.alloc (.cells #[.bool ux, .string ⟨vx.toArray⟩] 62)) W → W.cell? ⟨w.heap.size, 0, none⟩ = some (.bool ux) ∧ W.cell? ⟨w.heap.size, 1, none⟩ = some (.string ⟨vx.toArray⟩)) := Lib.hid (fun W hb => And.intro ((Kept.one hb).1 0 _ rfl) ((Kept.one hb).1 1 _ rfl))
  have HO : Hid (anyOf Tgs.sameweak s (ux, vx) hs = ((Tgs.ptl s).2.2 && ((Tgs.ptl s).2.1 || (hs && (Tgs.ptl s).1.any (fun t => Tgs.sameweak t (ux, vx)))), !(Tgs.ptl s).2.2)) := Lib.hid rfl
  unfold Tgs.LstEnd at HP
  unfold AnyEnd
  generalize anyOf Tgs.sameweak s (ux, vx) hs = z at HO ⊢
  generalize Tgs.ptl s = p at HP HLN HO
  obtain ⟨L, anyT, ok⟩ := p
  simp only at HP HLN HO
  clear hb0 hl
  go_enter Tryz.func38, Tryz.ntmps38
  go_wp2_with (fail)
  go_at_call 65
  refine (HP.out _).mono ?_
  rintro e w1 ⟨vL, rfl, oL, hb1⟩
  have HR1 := Lib.hid hb1
  have HB1 := Lib.hid (HB0.out.trans (hb1.mono HB0.out.size))
  obtain ⟨aL, cL, hve, ha⟩ := shape_t (Tgs.own_holds oL)
  subst hve
  have HA := Lib.hid ha
  clear hb1 oL ha
  cases ok with
  | false =>
    have HF : Hid (z = (false, true)) := Lib.hid (by rw [HO.out]; simp)
    go_wp2
    go_ret2
    exact ⟨by obtain rfl := HF.out; rfl, HB1.out⟩
  | true =>
  cases hs with
  | false =>
    have HF : Hid (z = (anyT, false)) := Lib.hid (by rw [HO.out]; simp)
    go_wp2
    go_loop [13] (fun i => i = .int .i64 0) (fun _ => 0)
    case atStart => rfl
    case round =>
      obtain rfl := hrel
      by_cases h0 : 0 < (L.length : Int)
      all_goals (
        go_wp2
        go_ret2
        exact ⟨by obtain rfl := HF.out; rfl, HB1.out⟩)
  | true =>
    have HF : Hid (z = (anyT || L.any (fun t => Tgs.sameweak t (ux, vx)), false)) := Lib.hid (by rw [HO.out]; simp)
    clear HO HP
    go_wp2
    go_loopw [13] (fun i wr => ∃ k : Nat, k ≤ L.length ∧ i = .int .i64 (k : Int) ∧ Hid ((L.take k).any (fun t => Tgs.sameweak t (ux, vx)) = false) ∧ Hid (Below (w.alloc (.cells #[.bool ux, .string ⟨vx.toArray⟩] 62)).heap.size (w.alloc (.cells #[.bool ux, .string ⟨vx.toArray⟩] 62)) wr) ∧ Hid (Below w1.heap.size w1 wr)) (fun i _ => L.length - (intOf i).toNat)
    case atStart => exact ⟨0, Nat.zero_le _, rfl, Lib.hid (by simp), HR1, Lib.hid (Below.refl _ _)⟩
    case round =>
      obtain ⟨k, hk, rfl, HN, HR, HRW⟩ := hrel
      have HB := Lib.hid (HB0.out.trans (HR.out.mono HB0.out.size))
      by_cases hlt : k < L.length
      · obtain ⟨b, off, rfl, hbl, _, hat⟩ := HA.out (by omega)
        obtain ⟨c0, c1⟩ := Tgs.at_cells (Tgs.at_below hat HRW.out hbl) hlt
        obtain ⟨t0, t1⟩ := HK.out _ HR.out
        have HM := Lib.hid (any_more (p := fun t => Tgs.sameweak t (ux, vx)) hlt HN.out)
        have HH := Lib.hid (any_hit (p := fun t => Tgs.sameweak t (ux, vx)) hlt)
        generalize L.getD k Tgs.nov = f at c0 c1 HM HH
        obtain ⟨x, y⟩ := f
        simp only at c0 c1
        have HCB : Hid (∀ W, Calls Tryz.prog 67 #[.agg #[.bool x, .string ⟨y.toArray⟩], .agg #[.bool ux, .string ⟨vx.toArray⟩]] W fun e w' => e = .returned (.bool (Tgs.sameweak (x, y) (ux, vx))) ∧ Below W.heap.size W w') := Lib.hid (fun W => Tgs.spec_weak x y ux vx W)
        have HSD := Lib.hid (growt_start HB.out)
        have hSZ : wr.drew.heap.size = wr.heap.size := rfl
        have SK : Hid (∀ w0 w1 : World, GrowT w wr w0 → Below w0.heap.size w0 w1 → GrowT w wr w1) := Lib.hid (fun _ _ h hb => growt_call h hb)
        have f0 : ∀ q : RegS.In (GrowT w wr), q.w.cell? ⟨b, off + k * 2, none⟩ = some (.bool x) := fun q => growt_old q.h c0
        have f1 : ∀ q : RegS.In (GrowT w wr), q.w.cell? ⟨b, off + k * 2 + 1, none⟩ = some (.string ⟨y.toArray⟩) := fun q => growt_old q.h c1
        have f2 : ∀ q : RegS.In (GrowT w wr), q.w.cell? ⟨w.heap.size, 0, none⟩ = some (.bool ux) := fun q => growt_old q.h t0
        have f3 : ∀ q : RegS.In (GrowT w wr), q.w.cell? ⟨w.heap.size, 1, none⟩ = some (.string ⟨vx.toArray⟩) := fun q => growt_old q.h t1
        have hki : (k : Int) < (L.length : Int) := by omega
        have hLL := HLN.out
        generalize hq : Tgs.sameweak (x, y) (ux, vx) = q at HCB
        have HQ := Lib.hid hq
        clear hq c0 c1 t0 t1 hat
        cases q
        · have HX := Lib.hid (HM.out HQ.out)
          clear HM HH
          go_wp2
          refine RegS.region (GrowT w wr) (by kernel_rfl) (by kernel_rfl) HSD.out ?_
          haveI : Nonempty (RegS.In (GrowT w wr)) := ⟨⟨_, HSD.out⟩⟩
          repeat (first | go_big_quiet_step ((go_at_call 67; with_reducible exact RegS.call (HCB.out _) (fun e w' he => ⟨he.1, SK.out _ _ (RegS.In.h _) he.2⟩))) | quiet_step ((go_at_call 67; with_reducible exact RegS.call (HCB.out _) (fun e w' he => ⟨he.1, SK.out _ _ (RegS.In.h _) he.2⟩))))
          refine wpQuiet_nil ?_
          intro _ hw'
          obtain ⟨⟨wz, hS⟩, hw''⟩ := hw'
          subst hw''
          have HBB := Lib.hid hS.2
          have HBR := Lib.hid (HR.out.trans (hS.1.mono HR.out.size))
          have HRW2 := Lib.hid (HRW.out.trans (hS.1.mono HRW.out.size))
          clear hS
          go_wp2
          go_roundw
          case rel => exact ⟨k + 1, by omega, by go_num, HX, HBR, HRW2⟩
          case measure => simp [intOf]; omega
        · have HX : Hid (z = (true, false)) := Lib.hid (by rw [HF.out, HH.out HQ.out]; simp)
          clear HM HH
          go_wp2
          refine RegS.region (GrowT w wr) (by kernel_rfl) (by kernel_rfl) HSD.out ?_
          haveI : Nonempty (RegS.In (GrowT w wr)) := ⟨⟨_, HSD.out⟩⟩
          repeat (first | go_big_quiet_step ((go_at_call 67; with_reducible exact RegS.call (HCB.out _) (fun e w' he => ⟨he.1, SK.out _ _ (RegS.In.h _) he.2⟩))) | quiet_step ((go_at_call 67; with_reducible exact RegS.call (HCB.out _) (fun e w' he => ⟨he.1, SK.out _ _ (RegS.In.h _) he.2⟩))))
          refine wpQuiet_nil ?_
          intro _ hw'
          obtain ⟨⟨wz, hS⟩, hw''⟩ := hw'
          subst hw''
          have HBB := Lib.hid hS.2
          have HBR := Lib.hid (HR.out.trans (hS.1.mono HR.out.size))
          have HRW2 := Lib.hid (HRW.out.trans (hS.1.mono HRW.out.size))
          clear hS
          go_wp2
          go_ret2
          exact ⟨by obtain rfl := HX.out; rfl, HBB.out⟩
      · have HX : Hid (z = (anyT, false)) := Lib.hid (by
          have h9 := HN.out
          rw [List.take_of_length_le (by omega)] at h9
          rw [HF.out, h9]; simp)
        go_wp2
        go_ret2
        exact ⟨by obtain rfl := HX.out; rfl, HB.out⟩
end Go.Proofs.YtddpfhcmifnagaaGreatDoor.Cnd
