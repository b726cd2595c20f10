/-
  CONTRACT of the program's IsSpanSet; nothing that was there before is changed.
-/
import Derived.Test.YtegaakgmfphcaaaSpnIs
import Derived.Test.YtegaakgmfphcaaaRegS
namespace Go.Proofs.Ytegaakgmfphcaaa.Spn
open Go Go.RowKit
set_option linter.unusedVariables false
set_option maxRecDepth 1000000

/-- The class of worlds behind a box and what only makes memory. -/
def BoxS (w wr : World) (x y : Int) (w' : World) : Prop := (w'.cell? ⟨wr.heap.size, 0, none⟩ = some (.int .i64 x) ∧ w'.cell? ⟨wr.heap.size, 1, none⟩ = some (.int .i64 y)) ∧ Below (wr.heap.size + 1) (wr.alloc (.cells #[.int .i64 x, .int .i64 y] 26)) w' ∧ Below w.heap.size w w'
theorem boxs_start {w wr : World} {x y : Int} (hb : Below w.heap.size w wr) : BoxS w wr x y (wr.alloc (.cells #[.int .i64 x, .int .i64 y] 26)).drew :=
  ⟨⟨by show (wr.alloc _).cell? _ = _; rw [World.cell?_alloc_new]; rfl, by show (wr.alloc _).cell? _ = _; rw [World.cell?_alloc_new]; rfl⟩, Rec.below_drew (Below.refl _ _), Rec.below_drew (hb.alloc hb.size _)⟩
theorem boxs_call {w wr w0 w1 : World} {x y : Int} (h : BoxS w wr x y w0) (hb : Below w0.heap.size w0 w1) : BoxS w wr x y w1 := by
  obtain ⟨⟨h1, h2⟩, h3, h4⟩ := h
  have hz := h3.size
  rw [World.size_alloc] at hz
  exact ⟨⟨(hb.cell (p := ⟨wr.heap.size, 0, none⟩) (by show wr.heap.size < _; omega)).trans h1, (hb.cell (p := ⟨wr.heap.size, 1, none⟩) (by show wr.heap.size < _; omega)).trans h2⟩, h3.trans (hb.mono hz), Base.then_below h4 hb⟩
/-- What lay there before the box reads as before. -/
theorem boxs_old {w wr w' : World} {x y : Int} (h : BoxS w wr x y w') {b o : Nat} {u : Value} (hc : wr.cell? ⟨b, o, none⟩ = some u) : w'.cell? ⟨b, o, none⟩ = some u := by
  have hlt := Rec.lt_of_cell hc
  rw [h.2.1.cell (p := ⟨b, o, none⟩) (by show b < _; omega), World.cell?_alloc_past _ _ _ (by omega)]
  exact hc

set_option maxHeartbeats 4000000 in
theorem impl_set (v : Value) (B : Nat) (l : List T) (w : World) (h : Holds w B v l) (hB : B ≤ w.heap.size) (hl : l.length ≤ 4194304) :
    Calls Try.prog 14 #[v] w (BoolEnd (isSet l) w) := by
  obtain ⟨a, cap, rfl, ha⟩ := shape h
  have HA := Lib.hid ha
  have HZ := Lib.hid (set_zero l)
  clear ha h
  go_enter Try.func14, Try.ntmps14
  go_wp2
  go_loopw [7] (fun i wr => ∃ k : Nat, k ≤ l.length ∧ i = .int .i64 (k : Int) ∧ Hid (isSet (l.take k) = true) ∧ Below w.heap.size w wr) (fun i _ => l.length - (intOf i).toNat)
  case atStart => exact ⟨0, Nat.zero_le _, rfl, HZ, Below.refl _ _⟩
  case round =>
    obtain ⟨k, hk, rfl, HP, hb⟩ := hrel
    have HB := Lib.hid hb
    by_cases hlt : k < l.length
    · obtain ⟨b, off, rfl, hbw, hcap, hc⟩ := HA.out (by omega)
      have hat := at_below hc hb (Nat.lt_of_lt_of_le hbw hB)
      obtain ⟨c0, c1⟩ := at_cells hat hlt
      have HS := Lib.hid (fun h1 h2 => set_step (l := l) hlt HP.out h1 h2)
      have HN := Lib.hid (fun h1 => set_bad (l := l) hlt h1)
      have HPV : Hid (0 < k → ∃ z : T, l.getD (k - 1) nos = z ∧ wr.cell? ⟨b, off + (k - 1) * 2 + 1, none⟩ = some (.int .i64 z.2)) := Lib.hid (fun h => ⟨l.getD (k - 1) nov, rfl, (at_cells hat (j := k - 1) (by omega)).2⟩)
      clear hb hc hat
      have hn : l.getD k nov = l.getD k nos := rfl
      rw [hn] at c0 c1
      clear hn
      generalize hx : l.getD k nos = x at c0 c1 HS HN
      clear hx
      obtain ⟨x, y⟩ := x
      simp only at c0 c1 HS HN
      have HCB := Lib.hid (can_be x y)
      have HSD := Lib.hid (boxs_start (x := x) (y := y) HB.out)
      have SK : Hid (∀ w0 w1 : World, BoxS w wr x y w0 → Below w0.heap.size w0 w1 → BoxS w wr x y w1) := Lib.hid (fun _ _ h hb => boxs_call h hb)
      have f0 : ∀ u : RegS.In (BoxS w wr x y), u.w.cell? ⟨wr.heap.size, 0, none⟩ = some (.int .i64 x) := fun u => u.h.1.1
      have f1 : ∀ u : RegS.In (BoxS w wr x y), u.w.cell? ⟨wr.heap.size, 1, none⟩ = some (.int .i64 y) := fun u => u.h.1.2
      have hki : (k : Int) < (l.length : Int) := by omega
      cases hcan : can (x, y) with
      | false =>
        have HE := Lib.hid (HN.out (Or.inl hcan))
        rw [hcan] at HCB
        clear HS HN hcan
        go_wp2
        refine RegS.region (BoxS w wr x y) (by kernel_rfl) (by kernel_rfl) HSD.out ?_
        haveI : Nonempty (RegS.In (BoxS w wr x y)) := ⟨⟨_, HSD.out⟩⟩
        repeat (first | go_big_quiet_step ((go_at_call 21; exact RegS.call (HCB.out _) (fun e w' he => ⟨he.1, SK.out _ _ (RegS.In.h _) he.2⟩))) | quiet_step ((go_at_call 21; exact RegS.call (HCB.out _) (fun e w' he => ⟨he.1, SK.out _ _ (RegS.In.h _) he.2⟩))))
        refine wpQuiet_nil ?_
        intro _ hw'
        obtain ⟨⟨wz, hS⟩, hw''⟩ := hw'
        subst hw''
        have HBB := Lib.hid hS.2.2
        clear hS
        go_wp2
        go_ret
        exact ⟨ret_bool HE.out.symm, HBB.out⟩
      | true =>
        rw [hcan] at HCB
        have HCAN := Lib.hid hcan
        clear hcan
        by_cases h4 : 0 < k
        · have h4' : 0 < (k : Int) := by omega
          have d4 : decide (0 < (k : Int)) = true := by simpa using h4'
          obtain ⟨z, hz, p1⟩ := HPV.out h4
          rw [hz] at HS HN
          clear hz
          obtain ⟨z0, z1⟩ := z
          simp only at p1 HS HN
          have f2 : ∀ u : RegS.In (BoxS w wr x y), u.w.cell? ⟨b, off + (k - 1) * 2 + 1, none⟩ = some (.int .i64 z1) := fun u => boxs_old u.h p1
          have hk1 : ((k : Int) - 1).toNat = k - 1 := by omega
          have hkb : 0 ≤ (k : Int) - 1 := by omega
          have hkc : (k : Int) - 1 < (l.length : Int) := by omega
          have hw1 : IntKind.i64.wrap ((k : Int) - 1) = (k : Int) - 1 := IntWalk.i64_in _ (by omega)
          clear p1
          by_cases h5 : x ≤ z1
          · have d5 : decide (x ≤ z1) = true := by simpa using h5
            have HE := Lib.hid (HN.out (Or.inr ⟨h4, h5⟩))
            clear HS HN
            go_wp2
            refine RegS.region (BoxS w wr x y) (by kernel_rfl) (by kernel_rfl) HSD.out ?_
            haveI : Nonempty (RegS.In (BoxS w wr x y)) := ⟨⟨_, HSD.out⟩⟩
            repeat (first | go_big_quiet_step ((go_at_call 21; exact RegS.call (HCB.out _) (fun e w' he => ⟨he.1, SK.out _ _ (RegS.In.h _) he.2⟩))) | quiet_step ((go_at_call 21; exact RegS.call (HCB.out _) (fun e w' he => ⟨he.1, SK.out _ _ (RegS.In.h _) he.2⟩))))
            refine wpQuiet_nil ?_
            intro _ hw'
            obtain ⟨⟨wz, hS⟩, hw''⟩ := hw'
            subst hw''
            have HBB := Lib.hid hS.2.2
            clear hS
            go_wp2
            go_ret
            exact ⟨ret_bool HE.out.symm, HBB.out⟩
          · have d5 : decide (x ≤ z1) = false := by simpa using h5
            have HE := Lib.hid (HS.out HCAN.out (Or.inr (by omega)))
            clear HS HN
            go_wp2
            refine RegS.region (BoxS w wr x y) (by kernel_rfl) (by kernel_rfl) HSD.out ?_
            haveI : Nonempty (RegS.In (BoxS w wr x y)) := ⟨⟨_, HSD.out⟩⟩
            repeat (first | go_big_quiet_step ((go_at_call 21; exact RegS.call (HCB.out _) (fun e w' he => ⟨he.1, SK.out _ _ (RegS.In.h _) he.2⟩))) | quiet_step ((go_at_call 21; exact RegS.call (HCB.out _) (fun e w' he => ⟨he.1, SK.out _ _ (RegS.In.h _) he.2⟩))))
            refine wpQuiet_nil ?_
            intro _ hw'
            obtain ⟨⟨wz, hS⟩, hw''⟩ := hw'
            subst hw''
            have HBB := Lib.hid hS.2.2
            clear hS
            go_wp2
            go_roundw
            case rel => exact ⟨k + 1, by omega, by go_num, HE, HBB.out⟩
            case measure => simp [intOf]; omega
        · have d4 : decide (0 < (k : Int)) = false := by simp; omega
          have HE := Lib.hid (HS.out HCAN.out (Or.inl (by omega)))
          clear HS HN
          go_wp2
          refine RegS.region (BoxS w wr x y) (by kernel_rfl) (by kernel_rfl) HSD.out ?_
          haveI : Nonempty (RegS.In (BoxS w wr x y)) := ⟨⟨_, HSD.out⟩⟩
          repeat (first | go_big_quiet_step ((go_at_call 21; exact RegS.call (HCB.out _) (fun e w' he => ⟨he.1, SK.out _ _ (RegS.In.h _) he.2⟩))) | quiet_step ((go_at_call 21; exact RegS.call (HCB.out _) (fun e w' he => ⟨he.1, SK.out _ _ (RegS.In.h _) he.2⟩))))
          refine wpQuiet_nil ?_
          intro _ hw'
          obtain ⟨⟨wz, hS⟩, hw''⟩ := hw'
          subst hw''
          have HBB := Lib.hid hS.2.2
          clear hS
          go_wp2
          go_roundw
          case rel => exact ⟨k + 1, by omega, by go_num, HE, HBB.out⟩
          case measure => simp [intOf]; omega
    · have HE := Lib.hid (set_all hlt HP.out)
      clear hb
      go_wp2
      go_ret
      exact ⟨ret_bool HE.out.symm, HB.out⟩
end Go.Proofs.Ytegaakgmfphcaaa.Spn
