/-
  CONTRACTS of both sides' ArePurges; nothing that was there before is changed.
-/
import Derived.Test.YtfgpphbfampjjaaPurIs
import Derived.Test.YtfgpphbfampjjaaRegS
import Derived.IntWalk
namespace Go.Proofs.Ytfgpphbfampjjaa.Pur
open Go Go.RowKit
set_option linter.unusedVariables false

/-- The purge with this index is one, and comes after the one before it. -/
def good (l : List T) (k : Nat) : Bool := okp (l.getD k nov) && (decide (k = 0) || decide ((l.getD (k - 1) nov).1 < (l.getD k nov).1))
def okn (l : List T) (k : Nat) : Bool := (List.range k).all (good l)
def okl (l : List T) : Bool := okn l l.length && decide (l.length ≤ 20)
theorem okn_zero (l : List T) : okn l 0 = true := rfl
theorem okn_step {l : List T} {k : Nat} (h : okn l k = true) (h2 : good l k = true) : okn l (k + 1) = true := by
  unfold okn at h ⊢; rw [List.range_succ, List.all_append, h]; simp [h2]
theorem okl_bad {l : List T} {k : Nat} (hk : k < l.length) (h : good l k = false) : okl l = false := by
  have : okn l l.length = false := by
    unfold okn; rw [List.all_eq_false]; exact ⟨k, List.mem_range.2 hk, by simp [h]⟩
  unfold okl; rw [this]; rfl
theorem okl_all {l : List T} {k : Nat} (h : okn l k = true) (hk : k ≤ l.length) (hn : ¬ k < l.length) : okl l = decide ((l.length : Int) ≤ 20) := by
  have : k = l.length := by omega
  subst this
  unfold okl; rw [h, Bool.true_and]; simp; omega
theorem good_no {l : List T} {k : Nat} (h : okp (l.getD k nov) = false) : good l k = false := by unfold good; rw [h]; rfl
theorem good_first {l : List T} {k : Nat} (h : okp (l.getD k nov) = true) (hk : ¬ 0 < k) : good l k = true := by unfold good; rw [h]; simp; omega
theorem good_behind {l : List T} {k : Nat} (h : okp (l.getD k nov) = true) (hk : 0 < k) : good l k = decide ((l.getD (k - 1) nov).1 < (l.getD k nov).1) := by
  unfold good; rw [h, show decide (k = 0) = false by simp; omega]; simp

/-- The class of worlds behind a box and what only makes memory. -/
def BoxS (w wr : World) (x y : Int) (t : List UInt8) (w' : World) : Prop := (w'.cell? ⟨wr.heap.size, 0, none⟩ = some (.int .i64 x) ∧ w'.cell? ⟨wr.heap.size, 1, none⟩ = some (.int .i64 y) ∧ w'.cell? ⟨wr.heap.size, 2, none⟩ = some (.string ⟨t.toArray⟩)) ∧ Below (wr.heap.size + 1) (wr.alloc (.cells #[.int .i64 x, .int .i64 y, .string ⟨t.toArray⟩] 26)) w' ∧ Below w.heap.size w w'
theorem boxs_start {w wr : World} {x y : Int} {t : List UInt8} (hb : Below w.heap.size w wr) : BoxS w wr x y t (wr.alloc (.cells #[.int .i64 x, .int .i64 y, .string ⟨t.toArray⟩] 26)).drew :=
  ⟨⟨by show (wr.alloc _).cell? _ = _; rw [World.cell?_alloc_new]; rfl, by show (wr.alloc _).cell? _ = _; rw [World.cell?_alloc_new]; rfl, by show (wr.alloc _).cell? _ = _; rw [World.cell?_alloc_new]; rfl⟩, Rec.below_drew (Below.refl _ _), Rec.below_drew (hb.alloc hb.size _)⟩
theorem boxs_call {w wr w0 w1 : World} {x y : Int} {t : List UInt8} (h : BoxS w wr x y t w0) (hb : Below w0.heap.size w0 w1) : BoxS w wr x y t w1 := by
  obtain ⟨⟨h1, h2, h2'⟩, h3, h4⟩ := h
  have hz := h3.size
  rw [World.size_alloc] at hz
  exact ⟨⟨(hb.cell (p := ⟨wr.heap.size, 0, none⟩) (by show wr.heap.size < _; omega)).trans h1, (hb.cell (p := ⟨wr.heap.size, 1, none⟩) (by show wr.heap.size < _; omega)).trans h2, (hb.cell (p := ⟨wr.heap.size, 2, none⟩) (by show wr.heap.size < _; omega)).trans h2'⟩, h3.trans (hb.mono hz), Base.then_below h4 hb⟩
/-- What lay there before the box reads as before. -/
theorem boxs_old {w wr w' : World} {x y : Int} {t : List UInt8} (h : BoxS w wr x y t w') {b o : Nat} {u : Value} (hc : wr.cell? ⟨b, o, none⟩ = some u) : w'.cell? ⟨b, o, none⟩ = some u := by
  have hlt := Rec.lt_of_cell hc
  rw [h.2.1.cell (p := ⟨b, o, none⟩) (by show b < _; omega), World.cell?_alloc_past _ _ _ (by omega)]
  exact hc
/-- The class of worlds behind what only makes memory. -/
def GrowS (w wr w' : World) : Prop := Below wr.heap.size wr w' ∧ Below w.heap.size w w'
theorem grow_start {w wr : World} (hb : Below w.heap.size w wr) : GrowS w wr wr.drew := ⟨Rec.below_drew (Below.refl _ _), Rec.below_drew hb⟩
theorem grow_call {w wr w0 w1 : World} (h : GrowS w wr w0) (hb : Below w0.heap.size w0 w1) : GrowS w wr w1 := ⟨h.1.trans (hb.mono h.1.size), Base.then_below h.2 hb⟩
theorem grow_old {w wr w' : World} (h : GrowS w wr w') {b o : Nat} {u : Value} (hc : wr.cell? ⟨b, o, none⟩ = some u) : w'.cell? ⟨b, o, none⟩ = some u := by
  rw [h.1.cell (p := ⟨b, o, none⟩) (Rec.lt_of_cell hc)]; exact hc
theorem shape_p {w : World} {B : Nat} {v : Value} {l : List T} (h : Holds w B v l) : ∃ a cap, v = .slice a l.length cap ∧ (0 < l.length → ∃ b off, a = some ⟨b, off, none⟩ ∧ b < B ∧ l.length ≤ cap ∧ At w b off l) := by
  rcases h with ⟨rfl, a, cap, rfl⟩ | ⟨h0, b, off, cap, rfl, hb, hcap, hc⟩
  · exact ⟨a, cap, rfl, fun h => by simp at h⟩
  · exact ⟨_, cap, rfl, fun _ => ⟨b, off, rfl, hb, hcap, hc⟩⟩


set_option maxHeartbeats 4000000 in
theorem spec_are (v : Value) (B : Nat) (l : List T) (w : World) (h : Holds w B v l) (hB : B ≤ w.heap.size) (hl : total l ≤ 1048576) :
    Calls Try.prog 16 #[v] w (BoolEnd (okl l) w) := by
  have hll : l.length ≤ 1048576 := Nat.le_trans (len_le_total l) hl
  have HT := Lib.hid hl
  obtain ⟨a, cap, rfl, ha⟩ := shape_p h
  have HA := Lib.hid ha
  clear ha h hl
  go_enter Try.func16, Try.ntmps16
  go_wp2
  go_loopw [3] (fun i wr => ∃ k : Nat, k ≤ l.length ∧ i = .int .i64 (k : Int) ∧ Hid (okn l k = true) ∧ Below w.heap.size w wr) (fun i _ => l.length - (intOf i).toNat)
  case atStart => exact ⟨0, Nat.zero_le _, rfl, Lib.hid (okn_zero l), Below.refl _ _⟩
  case round =>
    obtain ⟨k, hk, rfl, HP, hb⟩ := hrel
    have HB := Lib.hid hb
    by_cases hlt : k < l.length
    · obtain ⟨b, off, rfl, hbw, hcap, hc⟩ := HA.out (by omega)
      have hat := at_below hc hb (Nat.lt_of_lt_of_le hbw hB)
      obtain ⟨c0, c1, c2⟩ := at_cells hat hlt
      have HLE : Hid ((l.getD k nov).2.2.length ≤ 1048576) := Lib.hid (Nat.le_trans (mem_total (Rec.getD_mem hlt)) HT.out)
      have HS := Lib.hid (fun h => okn_step (k := k) HP.out h)
      have HN := Lib.hid (fun h => okl_bad hlt h)
      have HPV : Hid (0 < k → ∃ z : T, l.getD (k - 1) nov = z ∧ wr.cell? ⟨b, off + (k - 1) * 3, none⟩ = some (.int .i64 z.1)) := Lib.hid (fun h => ⟨l.getD (k - 1) nov, rfl, (at_cells hat (j := k - 1) (by omega)).1⟩)
      have HG1 := Lib.hid (good_no (l := l) (k := k))
      have HG2 := Lib.hid (good_first (l := l) (k := k))
      have HG3 := Lib.hid (good_behind (l := l) (k := k))
      clear hb hc hat
      generalize hx : l.getD k nov = x at c0 c1 c2 HLE HG1 HG2 HG3
      clear hx
      obtain ⟨x, y, t⟩ := x
      simp only at c0 c1 c2 HLE HG1 HG2 HG3
      have HCB := Lib.hid (fun W => spec_isp x y t W HLE.out)
      unfold fv at HCB
      have HSD := Lib.hid (grow_start HB.out)
      have SK : Hid (∀ w0 w1 : World, GrowS w wr w0 → Below w0.heap.size w0 w1 → GrowS w wr w1) := Lib.hid (fun _ _ h hb => grow_call h hb)
      have f0 : ∀ u : RegS.In (GrowS w wr), u.w.cell? ⟨b, off + k * 3, none⟩ = some (.int .i64 x) := fun u => grow_old u.h c0
      have f1 : ∀ u : RegS.In (GrowS w wr), u.w.cell? ⟨b, off + k * 3 + 1, none⟩ = some (.int .i64 y) := fun u => grow_old u.h c1
      have f1' : ∀ u : RegS.In (GrowS w wr), u.w.cell? ⟨b, off + k * 3 + 2, none⟩ = some (.string ⟨t.toArray⟩) := fun u => grow_old u.h c2
      clear c0 c1 c2
      have hki : (k : Int) < (l.length : Int) := by omega
      cases hcan : okp (x, y, t) with
      | false =>
        have HE := Lib.hid (HN.out (HG1.out hcan))
        rw [hcan] at HCB
        clear HS HN hcan HG1 HG2 HG3
        go_wp2
        refine RegS.region (GrowS w wr) (by kernel_rfl) (by kernel_rfl) HSD.out ?_
        haveI : Nonempty (RegS.In (GrowS w wr)) := ⟨⟨_, HSD.out⟩⟩
        repeat (first | go_big_quiet_step ((go_at_call 12; exact RegS.call (HCB.out _) (fun e w' he => ⟨he.1, SK.out _ _ (RegS.In.h _) he.2⟩))) | quiet_step ((go_at_call 12; exact RegS.call (HCB.out _) (fun e w' he => ⟨he.1, SK.out _ _ (RegS.In.h _) he.2⟩))))
        refine wpQuiet_nil ?_
        intro _ hw'
        obtain ⟨⟨wz, hS⟩, hw''⟩ := hw'
        subst hw''
        have HBB := Lib.hid hS.2
        clear hS
        go_wp2
        go_ret
        exact ⟨ret_b HE.out.symm, HBB.out⟩
      | true =>
        rw [hcan] at HCB
        have HCAN := Lib.hid hcan
        clear hcan
        by_cases h4 : 0 < k
        · have h4' : 0 < (k : Int) := by omega
          have d4 : decide (0 < (k : Int)) = true := by simpa using h4'
          have HG := Lib.hid (HG3.out HCAN.out h4)
          obtain ⟨z, hz, p1⟩ := HPV.out h4
          rw [hz] at HG
          clear hz HG1 HG2 HG3 HPV
          obtain ⟨z0, z1⟩ := z
          simp only at p1 HG
          have f2 : ∀ u : RegS.In (GrowS w wr), u.w.cell? ⟨b, off + (k - 1) * 3, none⟩ = some (.int .i64 z0) := fun u => grow_old u.h p1
          have hk1 : ((k : Int) - 1).toNat = k - 1 := by omega
          have hkb : 0 ≤ (k : Int) - 1 := by omega
          have hkc : (k : Int) - 1 < (l.length : Int) := by omega
          have hw1 : IntKind.i64.wrap ((k : Int) - 1) = (k : Int) - 1 := IntWalk.i64_in _ (by omega)
          clear p1
          by_cases h5 : x ≤ z0
          · have d5 : decide (x ≤ z0) = true := by simpa using h5
            have HE := Lib.hid (HN.out (by rw [HG.out]; simp; omega))
            clear HS HN HG
            go_wp2
            refine RegS.region (GrowS w wr) (by kernel_rfl) (by kernel_rfl) HSD.out ?_
            haveI : Nonempty (RegS.In (GrowS w wr)) := ⟨⟨_, HSD.out⟩⟩
            repeat (first | go_big_quiet_step ((go_at_call 12; exact RegS.call (HCB.out _) (fun e w' he => ⟨he.1, SK.out _ _ (RegS.In.h _) he.2⟩))) | quiet_step ((go_at_call 12; exact RegS.call (HCB.out _) (fun e w' he => ⟨he.1, SK.out _ _ (RegS.In.h _) he.2⟩))))
            refine wpQuiet_nil ?_
            intro _ hw'
            obtain ⟨⟨wz, hS⟩, hw''⟩ := hw'
            subst hw''
            have HBB := Lib.hid hS.2
            clear hS
            go_wp2
            go_ret
            exact ⟨ret_b HE.out.symm, HBB.out⟩
          · have d5 : decide (x ≤ z0) = false := by simpa using h5
            have HE := Lib.hid (HS.out (by rw [HG.out]; simp; omega))
            clear HS HN HG
            go_wp2
            refine RegS.region (GrowS w wr) (by kernel_rfl) (by kernel_rfl) HSD.out ?_
            haveI : Nonempty (RegS.In (GrowS w wr)) := ⟨⟨_, HSD.out⟩⟩
            repeat (first | go_big_quiet_step ((go_at_call 12; exact RegS.call (HCB.out _) (fun e w' he => ⟨he.1, SK.out _ _ (RegS.In.h _) he.2⟩))) | quiet_step ((go_at_call 12; exact RegS.call (HCB.out _) (fun e w' he => ⟨he.1, SK.out _ _ (RegS.In.h _) he.2⟩))))
            refine wpQuiet_nil ?_
            intro _ hw'
            obtain ⟨⟨wz, hS⟩, hw''⟩ := hw'
            subst hw''
            have HBB := Lib.hid hS.2
            clear hS
            go_wp2
            go_roundw
            case rel => exact ⟨k + 1, by omega, by go_num, HE, HBB.out⟩
            case measure => simp [intOf]; omega
        · have d4 : decide (0 < (k : Int)) = false := by simp; omega
          have HE := Lib.hid (HS.out (HG2.out HCAN.out h4))
          clear HS HN HG1 HG2 HG3 HPV
          go_wp2
          refine RegS.region (GrowS w wr) (by kernel_rfl) (by kernel_rfl) HSD.out ?_
          haveI : Nonempty (RegS.In (GrowS w wr)) := ⟨⟨_, HSD.out⟩⟩
          repeat (first | go_big_quiet_step ((go_at_call 12; exact RegS.call (HCB.out _) (fun e w' he => ⟨he.1, SK.out _ _ (RegS.In.h _) he.2⟩))) | quiet_step ((go_at_call 12; exact RegS.call (HCB.out _) (fun e w' he => ⟨he.1, SK.out _ _ (RegS.In.h _) he.2⟩))))
          refine wpQuiet_nil ?_
          intro _ hw'
          obtain ⟨⟨wz, hS⟩, hw''⟩ := hw'
          subst hw''
          have HBB := Lib.hid hS.2
          clear hS
          go_wp2
          go_roundw
          case rel => exact ⟨k + 1, by omega, by go_num, HE, HBB.out⟩
          case measure => simp [intOf]; omega
    · have HE := Lib.hid (okl_all HP.out hk hlt)
      clear hb
      go_wp2
      go_ret
      exact ⟨ret_b HE.out.symm, HB.out⟩


set_option maxHeartbeats 4000000 in
theorem impl_are (v : Value) (B : Nat) (l : List T) (w : World) (h : Holds w B v l) (hB : B ≤ w.heap.size) (hl : total l ≤ 1048576) :
    Calls Try.prog 18 #[v] w (BoolEnd (okl l) w) := by
  have hll : l.length ≤ 1048576 := Nat.le_trans (len_le_total l) hl
  have HT := Lib.hid hl
  obtain ⟨a, cap, rfl, ha⟩ := shape_p h
  have HA := Lib.hid ha
  clear ha h hl
  go_enter Try.func18, Try.ntmps18
  go_wp2
  go_loopw [7] (fun i wr => ∃ k : Nat, k ≤ l.length ∧ i = .int .i64 (k : Int) ∧ Hid (okn l k = true) ∧ Below w.heap.size w wr) (fun i _ => l.length - (intOf i).toNat)
  case atStart => exact ⟨0, Nat.zero_le _, rfl, Lib.hid (okn_zero l), Below.refl _ _⟩
  case round =>
    obtain ⟨k, hk, rfl, HP, hb⟩ := hrel
    have HB := Lib.hid hb
    by_cases hlt : k < l.length
    · obtain ⟨b, off, rfl, hbw, hcap, hc⟩ := HA.out (by omega)
      have hat := at_below hc hb (Nat.lt_of_lt_of_le hbw hB)
      obtain ⟨c0, c1, c2⟩ := at_cells hat hlt
      have HLE : Hid ((l.getD k nov).2.2.length ≤ 1048576) := Lib.hid (Nat.le_trans (mem_total (Rec.getD_mem hlt)) HT.out)
      have HS := Lib.hid (fun h => okn_step (k := k) HP.out h)
      have HN := Lib.hid (fun h => okl_bad hlt h)
      have HPV : Hid (0 < k → ∃ z : T, l.getD (k - 1) nov = z ∧ wr.cell? ⟨b, off + (k - 1) * 3, none⟩ = some (.int .i64 z.1)) := Lib.hid (fun h => ⟨l.getD (k - 1) nov, rfl, (at_cells hat (j := k - 1) (by omega)).1⟩)
      have HG1 := Lib.hid (good_no (l := l) (k := k))
      have HG2 := Lib.hid (good_first (l := l) (k := k))
      have HG3 := Lib.hid (good_behind (l := l) (k := k))
      clear hb hc hat
      generalize hx : l.getD k nov = x at c0 c1 c2 HLE HG1 HG2 HG3
      clear hx
      obtain ⟨x, y, t⟩ := x
      simp only at c0 c1 c2 HLE HG1 HG2 HG3
      have HCB := Lib.hid (fun W => impl_isp x y t W HLE.out)
      unfold fv at HCB
      have HSD := Lib.hid (boxs_start (x := x) (y := y) (t := t) HB.out)
      have SK : Hid (∀ w0 w1 : World, BoxS w wr x y t w0 → Below w0.heap.size w0 w1 → BoxS w wr x y t w1) := Lib.hid (fun _ _ h hb => boxs_call h hb)
      have f0 : ∀ u : RegS.In (BoxS w wr x y t), u.w.cell? ⟨wr.heap.size, 0, none⟩ = some (.int .i64 x) := fun u => u.h.1.1
      have f1 : ∀ u : RegS.In (BoxS w wr x y t), u.w.cell? ⟨wr.heap.size, 1, none⟩ = some (.int .i64 y) := fun u => u.h.1.2.1
      have f1' : ∀ u : RegS.In (BoxS w wr x y t), u.w.cell? ⟨wr.heap.size, 2, none⟩ = some (.string ⟨t.toArray⟩) := fun u => u.h.1.2.2
      have hki : (k : Int) < (l.length : Int) := by omega
      cases hcan : okp (x, y, t) with
      | false =>
        have HE := Lib.hid (HN.out (HG1.out hcan))
        rw [hcan] at HCB
        clear HS HN hcan HG1 HG2 HG3
        go_wp2
        refine RegS.region (BoxS w wr x y t) (by kernel_rfl) (by kernel_rfl) HSD.out ?_
        haveI : Nonempty (RegS.In (BoxS w wr x y t)) := ⟨⟨_, HSD.out⟩⟩
        repeat (first | go_big_quiet_step ((go_at_call 14; exact RegS.call (HCB.out _) (fun e w' he => ⟨he.1, SK.out _ _ (RegS.In.h _) he.2⟩))) | quiet_step ((go_at_call 14; exact RegS.call (HCB.out _) (fun e w' he => ⟨he.1, SK.out _ _ (RegS.In.h _) he.2⟩))))
        refine wpQuiet_nil ?_
        intro _ hw'
        obtain ⟨⟨wz, hS⟩, hw''⟩ := hw'
        subst hw''
        have HBB := Lib.hid hS.2.2
        clear hS
        go_wp2
        go_ret
        exact ⟨ret_b HE.out.symm, HBB.out⟩
      | true =>
        rw [hcan] at HCB
        have HCAN := Lib.hid hcan
        clear hcan
        by_cases h4 : 0 < k
        · have h4' : 0 < (k : Int) := by omega
          have d4 : decide (0 < (k : Int)) = true := by simpa using h4'
          have HG := Lib.hid (HG3.out HCAN.out h4)
          obtain ⟨z, hz, p1⟩ := HPV.out h4
          rw [hz] at HG
          clear hz HG1 HG2 HG3 HPV
          obtain ⟨z0, z1⟩ := z
          simp only at p1 HG
          have f2 : ∀ u : RegS.In (BoxS w wr x y t), u.w.cell? ⟨b, off + (k - 1) * 3, none⟩ = some (.int .i64 z0) := fun u => boxs_old u.h p1
          have hk1 : ((k : Int) - 1).toNat = k - 1 := by omega
          have hkb : 0 ≤ (k : Int) - 1 := by omega
          have hkc : (k : Int) - 1 < (l.length : Int) := by omega
          have hw1 : IntKind.i64.wrap ((k : Int) - 1) = (k : Int) - 1 := IntWalk.i64_in _ (by omega)
          clear p1
          by_cases h5 : x ≤ z0
          · have d5 : decide (x ≤ z0) = true := by simpa using h5
            have HE := Lib.hid (HN.out (by rw [HG.out]; simp; omega))
            clear HS HN HG
            go_wp2
            refine RegS.region (BoxS w wr x y t) (by kernel_rfl) (by kernel_rfl) HSD.out ?_
            haveI : Nonempty (RegS.In (BoxS w wr x y t)) := ⟨⟨_, HSD.out⟩⟩
            repeat (first | go_big_quiet_step ((go_at_call 14; exact RegS.call (HCB.out _) (fun e w' he => ⟨he.1, SK.out _ _ (RegS.In.h _) he.2⟩))) | quiet_step ((go_at_call 14; exact RegS.call (HCB.out _) (fun e w' he => ⟨he.1, SK.out _ _ (RegS.In.h _) he.2⟩))))
            refine wpQuiet_nil ?_
            intro _ hw'
            obtain ⟨⟨wz, hS⟩, hw''⟩ := hw'
            subst hw''
            have HBB := Lib.hid hS.2.2
            clear hS
            go_wp2
            go_ret
            exact ⟨ret_b HE.out.symm, HBB.out⟩
          · have d5 : decide (x ≤ z0) = false := by simpa using h5
            have HE := Lib.hid (HS.out (by rw [HG.out]; simp; omega))
            clear HS HN HG
            go_wp2
            refine RegS.region (BoxS w wr x y t) (by kernel_rfl) (by kernel_rfl) HSD.out ?_
            haveI : Nonempty (RegS.In (BoxS w wr x y t)) := ⟨⟨_, HSD.out⟩⟩
            repeat (first | go_big_quiet_step ((go_at_call 14; exact RegS.call (HCB.out _) (fun e w' he => ⟨he.1, SK.out _ _ (RegS.In.h _) he.2⟩))) | quiet_step ((go_at_call 14; exact RegS.call (HCB.out _) (fun e w' he => ⟨he.1, SK.out _ _ (RegS.In.h _) he.2⟩))))
            refine wpQuiet_nil ?_
            intro _ hw'
            obtain ⟨⟨wz, hS⟩, hw''⟩ := hw'
            subst hw''
            have HBB := Lib.hid hS.2.2
            clear hS
            go_wp2
            go_roundw
            case rel => exact ⟨k + 1, by omega, by go_num, HE, HBB.out⟩
            case measure => simp [intOf]; omega
        · have d4 : decide (0 < (k : Int)) = false := by simp; omega
          have HE := Lib.hid (HS.out (HG2.out HCAN.out h4))
          clear HS HN HG1 HG2 HG3 HPV
          go_wp2
          refine RegS.region (BoxS w wr x y t) (by kernel_rfl) (by kernel_rfl) HSD.out ?_
          haveI : Nonempty (RegS.In (BoxS w wr x y t)) := ⟨⟨_, HSD.out⟩⟩
          repeat (first | go_big_quiet_step ((go_at_call 14; exact RegS.call (HCB.out _) (fun e w' he => ⟨he.1, SK.out _ _ (RegS.In.h _) he.2⟩))) | quiet_step ((go_at_call 14; exact RegS.call (HCB.out _) (fun e w' he => ⟨he.1, SK.out _ _ (RegS.In.h _) he.2⟩))))
          refine wpQuiet_nil ?_
          intro _ hw'
          obtain ⟨⟨wz, hS⟩, hw''⟩ := hw'
          subst hw''
          have HBB := Lib.hid hS.2.2
          clear hS
          go_wp2
          go_roundw
          case rel => exact ⟨k + 1, by omega, by go_num, HE, HBB.out⟩
          case measure => simp [intOf]; omega
    · have HE := Lib.hid (okl_all HP.out hk hlt)
      clear hb
      go_wp2
      go_ret
      exact ⟨ret_b HE.out.symm, HB.out⟩

end Go.Proofs.Ytfgpphbfampjjaa.Pur
