/-
  CONTRACTS AND PLAIN FACTS, several texts in one; each says in its own words what it proves.
-/
import Derived.Test.YtddpfhcmifnagaaGreatDoorPartAL
import Derived.Laws.EntriesVeiled

/-
  CONTRACTS of the program's plan and PlanFor; nothing that was there before is changed.
-/
namespace Go.Proofs.YtddpfhcmifnagaaGreatDoor.Srv
open Go Go.RowKit
set_option linter.unusedVariables false
set_option maxRecDepth 1000000

set_option maxHeartbeats 8000000 in
theorem impl_plan0 (u v : Value) (A G : List D) (a l : Int) (B : Nat) (w : World) (h : Sv w B u v A G) : Calls Tryz.prog 32 #[sv u v a l] w (NumEnd (step A G a l) w) := by
  have HB0 : Hid (Below w.heap.size w ((w.alloc (.cells #[u, v, .int .i64 a, .int .i64 l] 52)).alloc (.cells #[(.func (Fn.func 54) #[.agg #[u, v, .int .i64 a, .int .i64 l]] #[]), .int .i64 3, (.func (Fn.func 27) #[.agg #[u, v, .int .i64 a, .int .i64 l]] #[]), .int .i64 1, (.func (Fn.func 55) #[.agg #[u, v, .int .i64 a, .int .i64 l]] #[]), .int .i64 3, (.func (Fn.func 56) #[.agg #[u, v, .int .i64 a, .int .i64 l]] #[]), .int .i64 1, (.func (Fn.func 57) #[.agg #[u, v, .int .i64 a, .int .i64 l]] #[]), .int .i64 2] 88))) := Lib.hid (((Below.refl _ _).alloc (Nat.le_refl _) _).alloc (by simp) _)
  have HK : Hid (∀ W, Below ((w.alloc (.cells #[u, v, .int .i64 a, .int .i64 l] 52)).alloc (.cells #[(.func (Fn.func 54) #[.agg #[u, v, .int .i64 a, .int .i64 l]] #[]), .int .i64 3, (.func (Fn.func 27) #[.agg #[u, v, .int .i64 a, .int .i64 l]] #[]), .int .i64 1, (.func (Fn.func 55) #[.agg #[u, v, .int .i64 a, .int .i64 l]] #[]), .int .i64 3, (.func (Fn.func 56) #[.agg #[u, v, .int .i64 a, .int .i64 l]] #[]), .int .i64 1, (.func (Fn.func 57) #[.agg #[u, v, .int .i64 a, .int .i64 l]] #[]), .int .i64 2] 88)).heap.size ((w.alloc (.cells #[u, v, .int .i64 a, .int .i64 l] 52)).alloc (.cells #[(.func (Fn.func 54) #[.agg #[u, v, .int .i64 a, .int .i64 l]] #[]), .int .i64 3, (.func (Fn.func 27) #[.agg #[u, v, .int .i64 a, .int .i64 l]] #[]), .int .i64 1, (.func (Fn.func 55) #[.agg #[u, v, .int .i64 a, .int .i64 l]] #[]), .int .i64 3, (.func (Fn.func 56) #[.agg #[u, v, .int .i64 a, .int .i64 l]] #[]), .int .i64 1, (.func (Fn.func 57) #[.agg #[u, v, .int .i64 a, .int .i64 l]] #[]), .int .i64 2] 88)) W → ((W.cell? ⟨w.heap.size + 1, 0, none⟩ = some (.func (Fn.func 54) #[.agg #[u, v, .int .i64 a, .int .i64 l]] #[]) ∧ W.cell? ⟨w.heap.size + 1, 1, none⟩ = some (.int .i64 3) ∧ W.cell? ⟨w.heap.size + 1, 2, none⟩ = some (.func (Fn.func 27) #[.agg #[u, v, .int .i64 a, .int .i64 l]] #[]) ∧ W.cell? ⟨w.heap.size + 1, 3, none⟩ = some (.int .i64 1) ∧ W.cell? ⟨w.heap.size + 1, 4, none⟩ = some (.func (Fn.func 55) #[.agg #[u, v, .int .i64 a, .int .i64 l]] #[]) ∧ W.cell? ⟨w.heap.size + 1, 5, none⟩ = some (.int .i64 3) ∧ W.cell? ⟨w.heap.size + 1, 6, none⟩ = some (.func (Fn.func 56) #[.agg #[u, v, .int .i64 a, .int .i64 l]] #[]) ∧ W.cell? ⟨w.heap.size + 1, 7, none⟩ = some (.int .i64 1) ∧ W.cell? ⟨w.heap.size + 1, 8, none⟩ = some (.func (Fn.func 57) #[.agg #[u, v, .int .i64 a, .int .i64 l]] #[]) ∧ W.cell? ⟨w.heap.size + 1, 9, none⟩ = some (.int .i64 2)) ∧ Below w.heap.size w W)) := Lib.hid (fun W hb => by
    have h2 := Kept.two hb
    exact ⟨⟨h2.1 0 _ rfl, h2.1 1 _ rfl, h2.1 2 _ rfl, h2.1 3 _ rfl, h2.1 4 _ rfl, h2.1 5 _ rfl, h2.1 6 _ rfl, h2.1 7 _ rfl, h2.1 8 _ rfl, h2.1 9 _ rfl⟩, HB0.out.trans (hb.mono HB0.out.size)⟩)
  have HX0 := Lib.hid (fun W (hb : Below w.heap.size w W) => impl_refused u v A G a l _ W (sv_below h hb))
  have HX1 := Lib.hid (fun W => impl_fresh u v a l W)
  have HX2 := Lib.hid (fun W (hb : Below w.heap.size w W) => impl_must u v A G a l _ W (sv_below h hb))
  have HX3 := Lib.hid (fun W (hb : Below w.heap.size w W) => impl_taken u v A G a l _ W (sv_below h hb))
  have HX4 := Lib.hid (fun W (hb : Below w.heap.size w W) => impl_lent u v A G a l _ W (sv_below h hb))
  have HE : Hid (step A G a l = if refused A G a l = true then 3 else if decide (a < l) = true then 1 else if must A G = true then 3 else if taken A a l = true then 1 else if over swN G a l = true then 2 else 3) := Lib.hid (by unfold step; simp only [decide_eq_true_eq])
  unfold BoolEnd sv at HX0 HX1 HX2 HX3 HX4
  unfold NumEnd sv
  generalize step A G a l = z at HE ⊢
  generalize refused A G a l = b0 at HX0 HE
  generalize decide (a < l) = b1 at HX1 HE
  generalize must A G = b2 at HX2 HE
  generalize taken A a l = b3 at HX3 HE
  generalize over swN G a l = b4 at HX4 HE
  clear h
  go_enter Tryz.func32, Tryz.ntmps32
  go_wp2
  go_loopw [24] (fun i wr => ∃ j : Nat, j ≤ 5 ∧ i = .int .i64 (j : Int) ∧ (1 ≤ j → b0 = false) ∧ (2 ≤ j → b1 = false) ∧ (3 ≤ j → b2 = false) ∧ (4 ≤ j → b3 = false) ∧ (5 ≤ j → b4 = false) ∧ Hid (Below ((w.alloc (.cells #[u, v, .int .i64 a, .int .i64 l] 52)).alloc (.cells #[(.func (Fn.func 54) #[.agg #[u, v, .int .i64 a, .int .i64 l]] #[]), .int .i64 3, (.func (Fn.func 27) #[.agg #[u, v, .int .i64 a, .int .i64 l]] #[]), .int .i64 1, (.func (Fn.func 55) #[.agg #[u, v, .int .i64 a, .int .i64 l]] #[]), .int .i64 3, (.func (Fn.func 56) #[.agg #[u, v, .int .i64 a, .int .i64 l]] #[]), .int .i64 1, (.func (Fn.func 57) #[.agg #[u, v, .int .i64 a, .int .i64 l]] #[]), .int .i64 2] 88)).heap.size ((w.alloc (.cells #[u, v, .int .i64 a, .int .i64 l] 52)).alloc (.cells #[(.func (Fn.func 54) #[.agg #[u, v, .int .i64 a, .int .i64 l]] #[]), .int .i64 3, (.func (Fn.func 27) #[.agg #[u, v, .int .i64 a, .int .i64 l]] #[]), .int .i64 1, (.func (Fn.func 55) #[.agg #[u, v, .int .i64 a, .int .i64 l]] #[]), .int .i64 3, (.func (Fn.func 56) #[.agg #[u, v, .int .i64 a, .int .i64 l]] #[]), .int .i64 1, (.func (Fn.func 57) #[.agg #[u, v, .int .i64 a, .int .i64 l]] #[]), .int .i64 2] 88)) wr)) (fun i _ => 5 - (intOf i).toNat)
  case atStart => exact ⟨0, by omega, rfl, fun h => absurd h (by omega), fun h => absurd h (by omega), fun h => absurd h (by omega), fun h => absurd h (by omega), fun h => absurd h (by omega), Lib.hid (Below.refl _ _)⟩
  case round =>
    obtain ⟨j, hj, rfl, hk0, hk1, hk2, hk3, hk4, HBR⟩ := hrel
    have HQ0 := Lib.hid hk0
    have HQ1 := Lib.hid hk1
    have HQ2 := Lib.hid hk2
    have HQ3 := Lib.hid hk3
    have HQ4 := Lib.hid hk4
    obtain ⟨⟨y0, y1, y2, y3, y4, y5, y6, y7, y8, y9⟩, hbw⟩ := HK.out _ HBR.out
    have HBW := Lib.hid hbw
    clear hk0 hk1 hk2 hk3 hk4 hbw
    have hjc : j = 0 ∨ j = 1 ∨ j = 2 ∨ j = 3 ∨ j = 4 ∨ j = 5 := by omega
    rcases hjc with rfl | rfl | rfl | rfl | rfl | rfl
    · have HA0 : Hid (Below wr.heap.size wr (wr.alloc (.cells #[(.func (Fn.func 54) #[.agg #[u, v, .int .i64 a, .int .i64 l]] #[]), .int .i64 3] 88))) := Lib.hid ((Below.refl _ _).alloc (Nat.le_refl _) _)
      have HA1 := Lib.hid (Base.then_below HBW.out HA0.out)
      have HKA := Lib.hid (fun W (hb : Below (wr.alloc (.cells #[(.func (Fn.func 54) #[.agg #[u, v, .int .i64 a, .int .i64 l]] #[]), .int .i64 3] 88)).heap.size (wr.alloc (.cells #[(.func (Fn.func 54) #[.agg #[u, v, .int .i64 a, .int .i64 l]] #[]), .int .i64 3] 88)) W) => (Kept.one hb).1 1 _ rfl)
      go_wp2_with (fail)
      go_at_call 54
      refine (HX0.out _ HA1.out).mono ?_
      rintro e w2 ⟨rfl, hb2⟩
      have yp := HKA.out _ hb2
      have HB2 := Lib.hid (Base.then_below HA1.out hb2)
      have HR2 := Lib.hid (HBR.out.trans ((Base.then_below HA0.out hb2).mono HBR.out.size))
      clear hb2 HKA
      cases hq : b0 with
      | true =>
        have HF : Hid (z = 3) := Lib.hid (by rw [HE.out, hq]; rfl)
        go_wp2
        go_ret
        exact ⟨ret_n HF.out.symm, HB2.out⟩
      | false =>
        have HQ := Lib.hid hq
        clear hq yp
        go_wp2
        go_roundw
        case rel => exact ⟨1, by omega, by rfl, fun _ => HQ.out, fun h => absurd h (by omega), fun h => absurd h (by omega), fun h => absurd h (by omega), fun h => absurd h (by omega), HR2⟩
        case measure => decide
    · have HA0 : Hid (Below wr.heap.size wr (wr.alloc (.cells #[(.func (Fn.func 27) #[.agg #[u, v, .int .i64 a, .int .i64 l]] #[]), .int .i64 1] 88))) := Lib.hid ((Below.refl _ _).alloc (Nat.le_refl _) _)
      have HA1 := Lib.hid (Base.then_below HBW.out HA0.out)
      have HKA := Lib.hid (fun W (hb : Below (wr.alloc (.cells #[(.func (Fn.func 27) #[.agg #[u, v, .int .i64 a, .int .i64 l]] #[]), .int .i64 1] 88)).heap.size (wr.alloc (.cells #[(.func (Fn.func 27) #[.agg #[u, v, .int .i64 a, .int .i64 l]] #[]), .int .i64 1] 88)) W) => (Kept.one hb).1 1 _ rfl)
      go_wp2_with (fail)
      go_at_call 27
      refine (HX1.out _).mono ?_
      rintro e w2 ⟨rfl, hb2⟩
      have yp := HKA.out _ hb2
      have HB2 := Lib.hid (Base.then_below HA1.out hb2)
      have HR2 := Lib.hid (HBR.out.trans ((Base.then_below HA0.out hb2).mono HBR.out.size))
      clear hb2 HKA
      cases hq : b1 with
      | true =>
        have HF : Hid (z = 1) := Lib.hid (by rw [HE.out, HQ0.out (by omega), hq]; rfl)
        go_wp2
        go_ret
        exact ⟨ret_n HF.out.symm, HB2.out⟩
      | false =>
        have HQ := Lib.hid hq
        clear hq yp
        go_wp2
        go_roundw
        case rel => exact ⟨2, by omega, by rfl, fun _ => HQ0.out (by omega), fun _ => HQ.out, fun h => absurd h (by omega), fun h => absurd h (by omega), fun h => absurd h (by omega), HR2⟩
        case measure => decide
    · have HA0 : Hid (Below wr.heap.size wr (wr.alloc (.cells #[(.func (Fn.func 55) #[.agg #[u, v, .int .i64 a, .int .i64 l]] #[]), .int .i64 3] 88))) := Lib.hid ((Below.refl _ _).alloc (Nat.le_refl _) _)
      have HA1 := Lib.hid (Base.then_below HBW.out HA0.out)
      have HKA := Lib.hid (fun W (hb : Below (wr.alloc (.cells #[(.func (Fn.func 55) #[.agg #[u, v, .int .i64 a, .int .i64 l]] #[]), .int .i64 3] 88)).heap.size (wr.alloc (.cells #[(.func (Fn.func 55) #[.agg #[u, v, .int .i64 a, .int .i64 l]] #[]), .int .i64 3] 88)) W) => (Kept.one hb).1 1 _ rfl)
      go_wp2_with (fail)
      go_at_call 55
      refine (HX2.out _ HA1.out).mono ?_
      rintro e w2 ⟨rfl, hb2⟩
      have yp := HKA.out _ hb2
      have HB2 := Lib.hid (Base.then_below HA1.out hb2)
      have HR2 := Lib.hid (HBR.out.trans ((Base.then_below HA0.out hb2).mono HBR.out.size))
      clear hb2 HKA
      cases hq : b2 with
      | true =>
        have HF : Hid (z = 3) := Lib.hid (by rw [HE.out, HQ0.out (by omega), HQ1.out (by omega), hq]; rfl)
        go_wp2
        go_ret
        exact ⟨ret_n HF.out.symm, HB2.out⟩
      | false =>
        have HQ := Lib.hid hq
        clear hq yp
        go_wp2
        go_roundw
        case rel => exact ⟨3, by omega, by rfl, fun _ => HQ0.out (by omega), fun _ => HQ1.out (by omega), fun _ => HQ.out, fun h => absurd h (by omega), fun h => absurd h (by omega), HR2⟩
        case measure => decide
    · have HA0 : Hid (Below wr.heap.size wr (wr.alloc (.cells #[(.func (Fn.func 56) #[.agg #[u, v, .int .i64 a, .int .i64 l]] #[]), .int .i64 1] 88))) := Lib.hid ((Below.refl _ _).alloc (Nat.le_refl _) _)
      have HA1 := Lib.hid (Base.then_below HBW.out HA0.out)
      have HKA := Lib.hid (fun W (hb : Below (wr.alloc (.cells #[(.func (Fn.func 56) #[.agg #[u, v, .int .i64 a, .int .i64 l]] #[]), .int .i64 1] 88)).heap.size (wr.alloc (.cells #[(.func (Fn.func 56) #[.agg #[u, v, .int .i64 a, .int .i64 l]] #[]), .int .i64 1] 88)) W) => (Kept.one hb).1 1 _ rfl)
      go_wp2_with (fail)
      go_at_call 56
      refine (HX3.out _ HA1.out).mono ?_
      rintro e w2 ⟨rfl, hb2⟩
      have yp := HKA.out _ hb2
      have HB2 := Lib.hid (Base.then_below HA1.out hb2)
      have HR2 := Lib.hid (HBR.out.trans ((Base.then_below HA0.out hb2).mono HBR.out.size))
      clear hb2 HKA
      cases hq : b3 with
      | true =>
        have HF : Hid (z = 1) := Lib.hid (by rw [HE.out, HQ0.out (by omega), HQ1.out (by omega), HQ2.out (by omega), hq]; rfl)
        go_wp2
        go_ret
        exact ⟨ret_n HF.out.symm, HB2.out⟩
      | false =>
        have HQ := Lib.hid hq
        clear hq yp
        go_wp2
        go_roundw
        case rel => exact ⟨4, by omega, by rfl, fun _ => HQ0.out (by omega), fun _ => HQ1.out (by omega), fun _ => HQ2.out (by omega), fun _ => HQ.out, fun h => absurd h (by omega), HR2⟩
        case measure => decide
    · have HA0 : Hid (Below wr.heap.size wr (wr.alloc (.cells #[(.func (Fn.func 57) #[.agg #[u, v, .int .i64 a, .int .i64 l]] #[]), .int .i64 2] 88))) := Lib.hid ((Below.refl _ _).alloc (Nat.le_refl _) _)
      have HA1 := Lib.hid (Base.then_below HBW.out HA0.out)
      have HKA := Lib.hid (fun W (hb : Below (wr.alloc (.cells #[(.func (Fn.func 57) #[.agg #[u, v, .int .i64 a, .int .i64 l]] #[]), .int .i64 2] 88)).heap.size (wr.alloc (.cells #[(.func (Fn.func 57) #[.agg #[u, v, .int .i64 a, .int .i64 l]] #[]), .int .i64 2] 88)) W) => (Kept.one hb).1 1 _ rfl)
      go_wp2_with (fail)
      go_at_call 57
      refine (HX4.out _ HA1.out).mono ?_
      rintro e w2 ⟨rfl, hb2⟩
      have yp := HKA.out _ hb2
      have HB2 := Lib.hid (Base.then_below HA1.out hb2)
      have HR2 := Lib.hid (HBR.out.trans ((Base.then_below HA0.out hb2).mono HBR.out.size))
      clear hb2 HKA
      cases hq : b4 with
      | true =>
        have HF : Hid (z = 2) := Lib.hid (by rw [HE.out, HQ0.out (by omega), HQ1.out (by omega), HQ2.out (by omega), HQ3.out (by omega), hq]; rfl)
        go_wp2
        go_ret
        exact ⟨ret_n HF.out.symm, HB2.out⟩
      | false =>
        have HQ := Lib.hid hq
        clear hq yp
        go_wp2
        go_roundw
        case rel => exact ⟨5, by omega, by rfl, fun _ => HQ0.out (by omega), fun _ => HQ1.out (by omega), fun _ => HQ2.out (by omega), fun _ => HQ3.out (by omega), fun _ => HQ.out, HR2⟩
        case measure => decide
    · have HF : Hid (z = 3) := Lib.hid (by rw [HE.out, HQ0.out (by omega), HQ1.out (by omega), HQ2.out (by omega), HQ3.out (by omega), HQ4.out (by omega)]; rfl)
      go_wp2
      go_ret
      exact ⟨ret_n HF.out.symm, HBW.out⟩

set_option maxHeartbeats 4000000 in
theorem impl_plan (me ho t : List UInt8) (u : Value) (l : List Flds.Fld) (c : Int) (v : Value) (m : List Flds.Fld) (b : List UInt8) (a f : Int) (B : Nat) (w : World) (h : Flds.Holds w B u l) (h2 : Flds.Holds w B v m) (hB : B ≤ w.heap.size) (hl : Flds.total l ≤ 1048576) (hm : Flds.total m ≤ 1048576) (hv : Dir.Errs w) :
    Calls Tryz.prog 15 #[.agg #[.string ⟨me.toArray⟩, .string ⟨ho.toArray⟩, .string ⟨t.toArray⟩, u], .agg #[.int .i64 c, v, .string ⟨b.toArray⟩], .int .i64 a, .int .i64 f] w (NumEnd (plan (Lif.rules l) (Lif.rules m) a f) w) := by
  have HB0 : Hid (Below w.heap.size w ((w.alloc (.cells #[.string ⟨me.toArray⟩, .string ⟨ho.toArray⟩, .string ⟨t.toArray⟩, u] 32)).alloc (.cells #[.int .i64 c, v, .string ⟨b.toArray⟩] 35))) := Lib.hid (((Below.refl _ _).alloc (Nat.le_refl _) _).alloc (by simp) _)
  have hbr := HB0.out
  have HSV := Lib.hid (impl_serv me ho t u l c v m b a f B _ (Flds.holds_below h (hbr.mono hB)) (Flds.holds_below h2 (hbr.mono hB)) (Nat.le_trans hB hbr.size) hl hm (Dir.errs_below hv hbr))
  have HSS := Lib.hid (fun p q W B' (x : Dir.Own W B' p (Lif.rules l)) (y : Dir.Own W B' q (Lif.rules m)) => serv_sv x y hl hm)
  unfold ServEnd at HSV
  have HE : Hid (plan (Lif.rules l) (Lif.rules m) a f = if step (Lif.rules l) (Lif.rules m) a f = 3 ∧ has ocN (Lif.rules l) = true then 4 else step (Lif.rules l) (Lif.rules m) a f) := Lib.hid rfl
  generalize plan (Lif.rules l) (Lif.rules m) a f = z at HE ⊢
  generalize Lif.rules l = A at HSV HSS HE
  generalize Lif.rules m = G at HSV HSS HE
  unfold NumEnd
  clear h h2 hl hm hv hbr
  go_enter Tryz.func15, Tryz.ntmps15
  go_wp2_with (fail)
  go_at_call 24
  refine HSV.out.mono ?_
  rintro e w1 ⟨p, q, rfl, oA, oG, hb1⟩
  obtain ⟨aA, cA, hpe, _⟩ := Rec.shape_at oA
  obtain ⟨aG, cG, hqe, _⟩ := Rec.shape_at oG
  subst hpe hqe
  have HS1 := Lib.hid (HSS.out _ _ _ _ oA oG)
  have HB1 := Lib.hid (HB0.out.trans (hb1.mono HB0.out.size))
  have HBA : Hid (Below w1.heap.size w1 (w1.alloc (.cells #[.slice aA A.length cA, .slice aG G.length cG, .int .i64 a, .int .i64 f] 52))) := Lib.hid ((Below.refl _ _).alloc (Nat.le_refl _) _)
  have HK := Lib.hid (fun W => kept4 (w := w1) (w1 := W) (T := 52) (a := .slice aA A.length cA) (b := .slice aG G.length cG) (c := .int .i64 a) (d := .int .i64 f))
  have HX0 := Lib.hid (fun W (hb : Below w1.heap.size w1 W) => impl_plan0 _ _ A G a f _ W (sv_below HS1.out hb))
  have HX1 := Lib.hid (fun W (hb : Below w1.heap.size w1 W) => has_a HS1.out ocN W hb)
  unfold NumEnd sv at HX0
  unfold sv
  generalize step A G a f = y at HX0 HE
  generalize has ocN A = b1 at HX1 HE
  unfold ocN at HX1
  clear oA oG hb1 HSV HSS
  go_wp2_with (fail)
  go_at_call 32
  refine (HX0.out _ HBA.out).mono ?_
  rintro e w2 ⟨rfl, hb2⟩
  obtain ⟨⟨x0, x1, x2, x3⟩, hbw⟩ := HK.out _ hb2
  have HW2 := Lib.hid hbw
  have HB2 := Lib.hid (Base.then_below HB1.out hbw)
  clear hb2 hbw
  by_cases hy : y = 3
  · subst hy
    go_wp2_with (fail)
    go_at_call 33
    refine (HX1.out _ HW2.out).mono ?_
    rintro e w3 ⟨rfl, hb3⟩
    have HB3 := Lib.hid (Base.then_below HB2.out hb3)
    clear hb3
    cases b1 with
    | true =>
      go_wp2
      go_ret
      exact ⟨ret_n (by rw [HE.out]; rfl), HB3.out⟩
    | false =>
      go_wp2
      go_ret
      exact ⟨ret_n (by rw [HE.out]; rfl), HB3.out⟩
  · have hq : (y == 3) = false := by simpa using hy
    have HF : Hid (z = y) := Lib.hid (by rw [HE.out, if_neg (fun h => hy h.1)])
    clear hy
    go_wp2
    go_ret
    exact ⟨ret_n HF.out.symm, HB2.out⟩
end Go.Proofs.YtddpfhcmifnagaaGreatDoor.Srv
