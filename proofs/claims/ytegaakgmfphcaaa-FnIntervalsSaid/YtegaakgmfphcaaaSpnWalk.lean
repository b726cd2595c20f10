/-
  THE WALK of the law of chapter 9.
-/
import Derived.Test.YtegaakgmfphcaaaDrawSpn
import Derived.Test.YtegaakgmfphcaaaSpnLw
import Derived.Test.YtegaakgmfphcaaaSpnUn
import Derived.Test.YtegaakgmfphcaaaSpnMisI
import Derived.Test.YtegaakgmfphcaaaSpnCov
import Derived.Test.YtegaakgmfphcaaaSpnSize
import Derived.Test.YtegaakgmfphcaaaSpnIsI
import Derived.Test.YtegaakgmfphcaaaRegS
namespace Go.Proofs.Ytegaakgmfphcaaa.fnIntervals
open Go Go.RowKit
set_option linter.unusedVariables false
set_option maxRecDepth 1000000
set_option maxRecDepth 1000000

/-- What has only grown. -/
def GS (wr u : World) : Prop := Below wr.heap.size wr u
theorem gs_call {wr w0 w1 : World} (h : GS wr w0) (hb : Below w0.heap.size w0 w1) : GS wr w1 := Base.then_below h hb
theorem gs_cell {wr u : World} {b o : Nat} {x : Value} (h : GS wr u) (hc : wr.cell? ⟨b, o, none⟩ = some x) : u.cell? ⟨b, o, none⟩ = some x := (Below.cell h (p := ⟨b, o, none⟩) (Rec.lt_of_cell hc)).trans hc
theorem own_on {w w' : World} {B : Nat} {v : Value} {l : List Spn.T} (h : Spn.Own w B v l) (hb : Below w.heap.size w w') : Spn.Holds w' w.heap.size v l := Spn.holds_below (Spn.own_holds h) hb
theorem hold_on {w w' : World} {B : Nat} {v : Value} {l : List Spn.T} (h : Spn.Holds w B v l) (hB : B ≤ w.heap.size) (hb : Below w.heap.size w w') : Spn.Holds w' B v l := Spn.holds_below h (hb.mono hB)
theorem cov_i (v : Value) (B : Nat) (l : List Spn.T) (p q : Int) (z : Bool) (w : World) (h : Spn.Holds w B v l) (hB : B ≤ w.heap.size) (hl : l.length ≤ 4194304) (hz : Spn.covers l (p, q) = z) :
    Calls Try.prog 10 #[v, .agg #[.int .i64 p, .int .i64 q]] w fun e w' => e = .returned (.bool z) ∧ Below w.heap.size w w' := by subst hz; exact Spn.impl_cov v B l p q w h hB hl
theorem cov_s (v : Value) (B : Nat) (l : List Spn.T) (p q : Int) (z : Bool) (w : World) (h : Spn.Holds w B v l) (hB : B ≤ w.heap.size) (hl : l.length ≤ 4194304) (hz : Spn.covers l (p, q) = z) :
    Calls Try.prog 11 #[v, .agg #[.int .i64 p, .int .i64 q]] w fun e w' => e = .returned (.bool z) ∧ Below w.heap.size w w' := by subst hz; exact Spn.spec_cov v B l p q w h hB hl
theorem set_i (v : Value) (B : Nat) (l : List Spn.T) (z : Bool) (w : World) (h : Spn.Holds w B v l) (hB : B ≤ w.heap.size) (hl : l.length ≤ 4194304) (hz : Spn.isSet l = z) :
    Calls Try.prog 14 #[v] w fun e w' => e = .returned (.bool z) ∧ Below w.heap.size w w' := by subst hz; exact Spn.impl_set v B l w h hB hl
theorem set_s (v : Value) (B : Nat) (l : List Spn.T) (z : Bool) (w : World) (h : Spn.Holds w B v l) (hB : B ≤ w.heap.size) (hl : l.length ≤ 4194304) (hz : Spn.isSet l = z) :
    Calls Try.prog 9 #[v] w fun e w' => e = .returned (.bool z) ∧ Below w.heap.size w w' := by subst hz; exact Spn.spec_set v B l w h hB hl
theorem sum_fit {lw : List Spn.T} (hs : ∀ s ∈ lw, Cur.Sml s) (hl : lw.length ≤ 5) : Spn.wsum (Spn.unite lw) ≤ Spn.wsum lw := by
  have h1 := Spn.unite_small (w := lw) (M := 20) (fun s hm => by obtain ⟨h1, h2, h3, h4⟩ := hs s hm; exact ⟨h1, h3, by omega⟩)
  have h2 := Spn.ssum_le (w := lw) (m := 5) (fun s hm => by obtain ⟨h1, h2, h3, h4⟩ := hs s hm; omega)
  unfold Spn.wsum
  have e1 : RowKit.wrap64 (Spn.ssum (Spn.unite lw)) = Spn.ssum (Spn.unite lw) := by unfold RowKit.wrap64; omega
  have e2 : RowKit.wrap64 (Spn.ssum lw) = Spn.ssum lw := by unfold RowKit.wrap64; omega
  rw [e1, e2]; exact h1.2
theorem add_short (l : List Spn.T) (x : Spn.T) (h : l.length ≤ 5) : (Spn.add l x).length ≤ 6 := by
  have := Spn.add_len1 l x; omega

set_option maxHeartbeats 16000000 in
theorem walk (b0 : Option Addr) (l0 c0 : Nat) (w0 : l0 ≤ maxLen) (w : World) (y0 : l0 ≤ 1048576 → Cur.Bytes w w.heap.size (.slice b0 l0 c0)) :
    Calls Try.prog 3 #[.slice b0 l0 c0] w fun e w' => e = .returned (.bool true) ∧ Below w.heap.size w w' := by
  clear w0
  by_cases hbig : 1048576 < (l0 : Int)
  · go_enter Try.func3, Try.ntmps3
    go_wp2_with (go_at_call 4; refine (Cur.big_yes _ _ _ _ hbig).mono ?_; rintro e w' ⟨rfl, rfl⟩)
    go_ret
    exact ⟨rfl, Below.refl _ _⟩
  have HBY := Lib.hid (y0 (by omega))
  clear y0
  go_enter Try.func3, Try.ntmps3
  go_wp2_with (fail)
  go_at_call 4
  refine (Cur.big_no _ _ _ _ (by omega)).mono ?_
  rintro e w' ⟨rfl, rfl⟩
  go_wp2_with (fail)
  go_at_call 5
  refine (Cur.draw_as _ _ _ HBY.out (Nat.le_refl _)).mono ?_
  rintro e w1 ⟨v, l, a, b, rfl, hl, hfa, hb0, hb1, ho, b1⟩
  have HX1 := Lib.hid (Spn.box_new w1 a b)
  have ha1 := (Below.refl w1.heap.size w1).alloc (Nat.le_refl _) (.cells #[.int .i64 a, .int .i64 b] 26)
  have B1 := Lib.hid (Base.then_below b1 ha1)
  have HL1 := Lib.hid (own_on ho ha1)
  have HS1 := Lib.hid ha1.size
  have HAD := Lib.hid (Spn.impl_add v _ l a b (w1.alloc (.cells #[.int .i64 a, .int .i64 b] 26)) HL1.out ha1.size (by omega))
  have HYL := Lib.hid (add_short l (a, b) hl)
  unfold Spn.Got at HAD
  clear b1 ho ha1 hfa
  go_wp2_with (fail)
  go_at_call 6
  refine HAD.out.mono ?_
  rintro e w2 ⟨vy, rfl, oy, b2⟩
  have HX2 := Lib.hid (Spn.box_below HX1.out b2)
  have B2 := Lib.hid (Base.then_below B1.out b2)
  have HL2 := Lib.hid (hold_on HL1.out HS1.out b2)
  have HS2 := Lib.hid (Nat.le_trans HS1.out b2.size)
  have HY2 := Lib.hid (Spn.own_holds oy)
  clear b2 oy HX1 B1 HL1 HS1 HAD
  go_wp2_with (fail)
  go_at_call 7
  refine (Cur.draw_ms _ _ _ (Cur.bytes_below HBY.out B2.out) B2.out.size).mono ?_
  rintro e w3 ⟨vu, u, p, q, rfl, hul, hfp, hq0, hq1, ou, b3⟩
  have HX3 := Lib.hid (Spn.box_below (Spn.box_below HX2.out b3) ((Below.refl w3.heap.size w3).alloc (Nat.le_refl _) (.cells #[.int .i64 p, .int .i64 q] 26)))
  have HV3 := Lib.hid (Spn.box_new w3 p q)
  have ha3 := (Below.refl w3.heap.size w3).alloc (Nat.le_refl _) (.cells #[.int .i64 p, .int .i64 q] 26)
  have hb3 := Base.then_below b3 ha3
  have B3 := Lib.hid (Base.then_below B2.out hb3)
  have HL3 := Lib.hid (hold_on HL2.out HS2.out hb3)
  have HS3 := Lib.hid (Nat.le_trans HS2.out hb3.size)
  have HY3 := Lib.hid (hold_on HY2.out (Nat.le_refl _) hb3)
  have HT3 := Lib.hid hb3.size
  have HU3 := Lib.hid (own_on ou ha3)
  have HR3 := Lib.hid ha3.size
  have HMI := Lib.hid (Spn.impl_miss vu _ u p q (w3.alloc (.cells #[.int .i64 p, .int .i64 q] 26)) HU3.out ha3.size (by omega))
  have HML := Lib.hid (Spn.miss_len u (p, q))
  unfold Spn.Missed at HMI
  clear b3 ou ha3 hb3 HX2 B2 HL2 HS2 HY2 hfp
  go_wp2_with (fail)
  go_at_call 8
  refine HMI.out.mono ?_
  rintro e w4 ⟨vg, rfl, og, b4⟩
  have HX4 := Lib.hid (Spn.box_below HX3.out b4)
  have HV4 := Lib.hid (Spn.box_below HV3.out b4)
  have B4 := Lib.hid (Base.then_below B3.out b4)
  have HL4 := Lib.hid (hold_on HL3.out HS3.out b4)
  have HS4 := Lib.hid (Nat.le_trans HS3.out b4.size)
  have HY4 := Lib.hid (hold_on HY3.out HT3.out b4)
  have HT4 := Lib.hid (Nat.le_trans HT3.out b4.size)
  have HU4 := Lib.hid (hold_on HU3.out HR3.out b4)
  have HR4 := Lib.hid (Nat.le_trans HR3.out b4.size)
  have HG4 := Lib.hid (Spn.own_holds og)
  have HCA := Lib.hid (fun (h : Spn.isSet l = true) (h0 : 0 ≤ a) (n : Int) => Spn.cov_add (x := (a, b)) h h0 n)
  have HCM := Lib.hid (fun (h : Spn.isSet u = true) (n : Int) => Spn.cov_miss h (p, q) n)
  have HAS := Lib.hid (fun (h : Spn.isSet l = true) => Spn.add_set (a, b) h)
  have hgl : (Spn.miss u (p, q)).length ≤ 6 := by have := HML.out; omega
  have hyl : (Spn.add l (a, b)).length ≤ 6 := HYL.out
  generalize Spn.add l (a, b) = y at HY4 HCA HAS hyl
  generalize Spn.miss u (p, q) = gaps at HG4 HCM hgl
  obtain ⟨gd, hgd⟩ : ∃ z, Spn.isSet l = z := ⟨_, rfl⟩
  have HGD := Lib.hid hgd
  have HSL := Lib.hid (set_s v _ l gd w4 HL4.out HS4.out (by omega) hgd)
  clear b4 og HX3 HV3 B3 HL3 HS3 HY3 HT3 HU3 HR3 HMI HML HYL hgd
  go_wp2_with (fail)
  go_at_call 9
  refine HSL.out.mono ?_
  rintro e w5 ⟨rfl, b5⟩
  have HX5 := Lib.hid (Spn.box_below HX4.out b5)
  have HV5 := Lib.hid (Spn.box_below HV4.out b5)
  have B5 := Lib.hid (Base.then_below B4.out b5)
  have HL5 := Lib.hid (Spn.holds_more (hold_on HL4.out HS4.out b5) (Nat.le_trans HS4.out b5.size))
  have HY5 := Lib.hid (Spn.holds_more (hold_on HY4.out HT4.out b5) (Nat.le_trans HT4.out b5.size))
  have HU5 := Lib.hid (Spn.holds_more (hold_on HU4.out HR4.out b5) (Nat.le_trans HR4.out b5.size))
  have HG5 := Lib.hid (Spn.holds_more (hold_on HG4.out (Nat.le_refl _) b5) b5.size)
  clear b5 HX4 HV4 B4 HL4 HS4 HY4 HT4 HU4 HR4 HG4 HSL
  have HSZ : Hid (w1.heap.size < w5.heap.size ∧ w3.heap.size < w5.heap.size) := Lib.hid ⟨Spn.box_lt HX5.out, Spn.box_lt HV5.out⟩
  go_wp2
  go_loopw [10] (fun i wr => ∃ k : Nat, k ≤ 40 ∧ i = .int .i64 (k : Int) ∧ Hid (Below w5.heap.size w5 wr)) (fun i _ => 40 - (intOf i).toNat)
  case atStart => exact ⟨0, Nat.zero_le _, rfl, Lib.hid (Below.refl _ _)⟩
  case round =>
    obtain ⟨k, hk, rfl, HG⟩ := hrel
    obtain ⟨xa, xb⟩ := Spn.box_cells (Spn.box_below HX5.out HG.out)
    by_cases h40 : (k : Int) < 40
    · cases gd with
      | true =>
        by_cases hap : 0 ≤ a
        · have HNS : Hid (w5.heap.size ≤ (wr.alloc (.cells #[.int .i64 (k : Int), .int .i64 ((k : Int) + 1)] 26)).heap.size) := Lib.hid (by have := HG.out.size; simp; omega)
          have haw := (Below.refl wr.heap.size wr).alloc (Nat.le_refl _) (.cells #[.int .i64 (k : Int), .int .i64 ((k : Int) + 1)] 26)
          have HGN := Lib.hid (HG.out.trans (haw.mono HG.out.size))
          have HSD : Hid (GS (wr.alloc (.cells #[.int .i64 (k : Int), .int .i64 ((k : Int) + 1)] 26)) (wr.alloc (.cells #[.int .i64 (k : Int), .int .i64 ((k : Int) + 1)] 26)).drew) := Lib.hid (Rec.below_drew (Below.refl _ _))
          have SK : Hid (∀ w0 w1 : World, GS (wr.alloc (.cells #[.int .i64 (k : Int), .int .i64 ((k : Int) + 1)] 26)) w0 → Below w0.heap.size w0 w1 → GS (wr.alloc (.cells #[.int .i64 (k : Int), .int .i64 ((k : Int) + 1)] 26)) w1) := Lib.hid (fun _ _ h hb => gs_call h hb)
          obtain ⟨xc, xd⟩ := Spn.box_cells (Spn.box_below HX5.out HGN.out)
          obtain ⟨ya, yb⟩ := Spn.box_cells (Spn.box_below HV5.out HGN.out)
          obtain ⟨za, zb⟩ := Spn.box_cells (Spn.box_new wr (k : Int) ((k : Int) + 1))
          have f0 : ∀ q : RegS.In (GS (wr.alloc (.cells #[.int .i64 (k : Int), .int .i64 ((k : Int) + 1)] 26))), q.w.cell? ⟨w1.heap.size, 0, none⟩ = some (.int .i64 a) := fun q => gs_cell q.h xc
          have f1 : ∀ q : RegS.In (GS (wr.alloc (.cells #[.int .i64 (k : Int), .int .i64 ((k : Int) + 1)] 26))), q.w.cell? ⟨w1.heap.size, 1, none⟩ = some (.int .i64 b) := fun q => gs_cell q.h xd
          have f2 : ∀ n : RegS.In (GS (wr.alloc (.cells #[.int .i64 (k : Int), .int .i64 ((k : Int) + 1)] 26))), n.w.cell? ⟨w3.heap.size, 0, none⟩ = some (.int .i64 p) := fun n => gs_cell n.h ya
          have f3 : ∀ n : RegS.In (GS (wr.alloc (.cells #[.int .i64 (k : Int), .int .i64 ((k : Int) + 1)] 26))), n.w.cell? ⟨w3.heap.size, 1, none⟩ = some (.int .i64 q) := fun n => gs_cell n.h yb
          have f4 : ∀ q : RegS.In (GS (wr.alloc (.cells #[.int .i64 (k : Int), .int .i64 ((k : Int) + 1)] 26))), q.w.cell? ⟨wr.heap.size, 0, none⟩ = some (.int .i64 (k : Int)) := fun q => gs_cell q.h za
          have f5 : ∀ q : RegS.In (GS (wr.alloc (.cells #[.int .i64 (k : Int), .int .i64 ((k : Int) + 1)] 26))), q.w.cell? ⟨wr.heap.size, 1, none⟩ = some (.int .i64 ((k : Int) + 1)) := fun q => gs_cell q.h zb
          obtain ⟨c1, hc1⟩ : ∃ z, Spn.covers y ((k : Int), (k : Int) + 1) = z := ⟨_, rfl⟩
          obtain ⟨c2, hc2⟩ : ∃ z, Spn.covers l ((k : Int), (k : Int) + 1) = z := ⟨_, rfl⟩
          obtain ⟨c3, hc3⟩ : ∃ z, Spn.covers gaps ((k : Int), (k : Int) + 1) = z := ⟨_, rfl⟩
          obtain ⟨c4, hc4⟩ : ∃ z, Spn.covers u ((k : Int), (k : Int) + 1) = z := ⟨_, rfl⟩
          obtain ⟨su, hsu⟩ : ∃ z, Spn.isSet u = z := ⟨_, rfl⟩
          have hq1e := HCA.out HGD.out hap (k : Int)
          rw [hc1, hc2] at hq1e
          have HQ2 : Hid (su = true → c3 = (decide (p ≤ (k : Int) ∧ (k : Int) < q) && !c4)) := Lib.hid (fun h => by have h2 := HCM.out (hsu.trans h) (k : Int); rw [hc3, hc4] at h2; exact h2)
          have HK5 := Lib.hid (fun n (h : GS (wr.alloc (.cells #[.int .i64 (k : Int), .int .i64 ((k : Int) + 1)] 26)) n) => HGN.out.trans (h.mono HNS.out))
          have HCY := Lib.hid (fun n : RegS.In (GS (wr.alloc (.cells #[.int .i64 (k : Int), .int .i64 ((k : Int) + 1)] 26))) => cov_i vy _ y (k : Int) ((k : Int) + 1) c1 n.w (Spn.holds_below HY5.out (HK5.out _ n.h)) (HK5.out _ n.h).size (by omega) hc1)
          have HCL := Lib.hid (fun n : RegS.In (GS (wr.alloc (.cells #[.int .i64 (k : Int), .int .i64 ((k : Int) + 1)] 26))) => cov_s v _ l (k : Int) ((k : Int) + 1) c2 n.w (Spn.holds_below HL5.out (HK5.out _ n.h)) (HK5.out _ n.h).size (by omega) hc2)
          have HCG := Lib.hid (fun n : RegS.In (GS (wr.alloc (.cells #[.int .i64 (k : Int), .int .i64 ((k : Int) + 1)] 26))) => cov_s vg _ gaps (k : Int) ((k : Int) + 1) c3 n.w (Spn.holds_below HG5.out (HK5.out _ n.h)) (HK5.out _ n.h).size (by omega) hc3)
          have HCU := Lib.hid (fun n : RegS.In (GS (wr.alloc (.cells #[.int .i64 (k : Int), .int .i64 ((k : Int) + 1)] 26))) => cov_s vu _ u (k : Int) ((k : Int) + 1) c4 n.w (Spn.holds_below HU5.out (HK5.out _ n.h)) (HK5.out _ n.h).size (by omega) hc4)
          have HSU := Lib.hid (fun n : RegS.In (GS (wr.alloc (.cells #[.int .i64 (k : Int), .int .i64 ((k : Int) + 1)] 26))) => set_s vu _ u su n.w (Spn.holds_below HU5.out (HK5.out _ n.h)) (HK5.out _ n.h).size (by omega) hsu)
          have hbm : b ≤ 1000000000000 := by omega
          clear xc xd ya yb za zb hc1 hc2 hc3 hc4 hsu haw HK5 HX5 HV5 HL5 HY5 HU5 HG5 HCA HCM HAS HGD B5 HBY HSZ hl hul hgl hyl
          cases c2 with
          | true =>
            rw [Bool.true_or] at hq1e
            subst hq1e
            go_wp2
            refine RegS.region (GS (wr.alloc (.cells #[.int .i64 (k : Int), .int .i64 ((k : Int) + 1)] 26))) (by kernel_rfl) (by kernel_rfl) HSD.out ?_
            haveI : Nonempty (RegS.In (GS (wr.alloc (.cells #[.int .i64 (k : Int), .int .i64 ((k : Int) + 1)] 26)))) := ⟨⟨_, HSD.out⟩⟩
            repeat (first | go_big_quiet_step ((first | (go_at_call 10; with_reducible exact RegS.call (HCY.out _) (fun e w' he => ⟨he.1, SK.out _ _ (RegS.In.h _) he.2⟩)) | (go_at_call 11; with_reducible exact RegS.call (HCL.out _) (fun e w' he => ⟨he.1, SK.out _ _ (RegS.In.h _) he.2⟩)))) | quiet_step ((first | (go_at_call 10; with_reducible exact RegS.call (HCY.out _) (fun e w' he => ⟨he.1, SK.out _ _ (RegS.In.h _) he.2⟩)) | (go_at_call 11; with_reducible exact RegS.call (HCL.out _) (fun e w' he => ⟨he.1, SK.out _ _ (RegS.In.h _) he.2⟩)))))
            refine wpQuiet_nil ?_
            intro wz hw'
            obtain ⟨⟨wq, hSq⟩, hw''⟩ := hw'
            have hS : GS (wr.alloc (.cells #[.int .i64 (k : Int), .int .i64 ((k : Int) + 1)] 26)) wz := by rw [hw'']; exact hSq
            clear hSq hw'' wq
            have HSD2 := Lib.hid (show GS _ wz.drew from Rec.below_drew hS)
            clear hS
            cases su with
            | false =>
              clear HCG HCU HQ2
              go_wp2
              refine RegS.region (GS (wr.alloc (.cells #[.int .i64 (k : Int), .int .i64 ((k : Int) + 1)] 26))) (by kernel_rfl) (by kernel_rfl) HSD2.out ?_
              haveI : Nonempty (RegS.In (GS (wr.alloc (.cells #[.int .i64 (k : Int), .int .i64 ((k : Int) + 1)] 26)))) := ⟨⟨_, HSD2.out⟩⟩
              repeat (first | go_big_quiet_step ((first | (go_at_call 9; with_reducible exact RegS.call (HSU.out _) (fun e w' he => ⟨he.1, SK.out _ _ (RegS.In.h _) he.2⟩)))) | quiet_step ((first | (go_at_call 9; with_reducible exact RegS.call (HSU.out _) (fun e w' he => ⟨he.1, SK.out _ _ (RegS.In.h _) he.2⟩)))))
              refine wpQuiet_nil ?_
              intro wz hw'
              obtain ⟨⟨wq, hSq⟩, hw''⟩ := hw'
              have hS : GS (wr.alloc (.cells #[.int .i64 (k : Int), .int .i64 ((k : Int) + 1)] 26)) wz := by rw [hw'']; exact hSq
              clear hSq hw'' wq
              have HGZ := Lib.hid (HGN.out.trans (hS.mono HNS.out))
              clear hS
              go_wp2
              go_roundw
              case rel => exact ⟨k + 1, by omega, by go_num, HGZ⟩
              case measure => simp [intOf]; omega
            | true =>
              by_cases h5 : p ≤ (k : Int)
              · by_cases h6 : (k : Int) < q
                · have hq2 := HQ2.out rfl
                  rw [show decide (p ≤ (k : Int) ∧ (k : Int) < q) = true from decide_eq_true ⟨h5, h6⟩, Bool.true_and] at hq2
                  subst hq2
                  clear HQ2
                  cases c4 with
                  | true =>
                    go_wp2
                    refine RegS.region (GS (wr.alloc (.cells #[.int .i64 (k : Int), .int .i64 ((k : Int) + 1)] 26))) (by kernel_rfl) (by kernel_rfl) HSD2.out ?_
                    haveI : Nonempty (RegS.In (GS (wr.alloc (.cells #[.int .i64 (k : Int), .int .i64 ((k : Int) + 1)] 26)))) := ⟨⟨_, HSD2.out⟩⟩
                    repeat (first | go_big_quiet_step ((first | (go_at_call 9; with_reducible exact RegS.call (HSU.out _) (fun e w' he => ⟨he.1, SK.out _ _ (RegS.In.h _) he.2⟩)) | (go_at_call 11; with_reducible exact RegS.call (HCG.out _) (fun e w' he => ⟨he.1, SK.out _ _ (RegS.In.h _) he.2⟩)) | (go_at_call 11; with_reducible exact RegS.call (HCU.out _) (fun e w' he => ⟨he.1, SK.out _ _ (RegS.In.h _) he.2⟩)))) | quiet_step ((first | (go_at_call 9; with_reducible exact RegS.call (HSU.out _) (fun e w' he => ⟨he.1, SK.out _ _ (RegS.In.h _) he.2⟩)) | (go_at_call 11; with_reducible exact RegS.call (HCG.out _) (fun e w' he => ⟨he.1, SK.out _ _ (RegS.In.h _) he.2⟩)) | (go_at_call 11; with_reducible exact RegS.call (HCU.out _) (fun e w' he => ⟨he.1, SK.out _ _ (RegS.In.h _) he.2⟩)))))
                    refine wpQuiet_nil ?_
                    intro wz hw'
                    obtain ⟨⟨wq, hSq⟩, hw''⟩ := hw'
                    have hS : GS (wr.alloc (.cells #[.int .i64 (k : Int), .int .i64 ((k : Int) + 1)] 26)) wz := by rw [hw'']; exact hSq
                    clear hSq hw'' wq
                    have HGZ := Lib.hid (HGN.out.trans (hS.mono HNS.out))
                    clear hS
                    go_wp2
                    go_roundw
                    case rel => exact ⟨k + 1, by omega, by go_num, HGZ⟩
                    case measure => simp [intOf]; omega
                  | false =>
                    go_wp2
                    refine RegS.region (GS (wr.alloc (.cells #[.int .i64 (k : Int), .int .i64 ((k : Int) + 1)] 26))) (by kernel_rfl) (by kernel_rfl) HSD2.out ?_
                    haveI : Nonempty (RegS.In (GS (wr.alloc (.cells #[.int .i64 (k : Int), .int .i64 ((k : Int) + 1)] 26)))) := ⟨⟨_, HSD2.out⟩⟩
                    repeat (first | go_big_quiet_step ((first | (go_at_call 9; with_reducible exact RegS.call (HSU.out _) (fun e w' he => ⟨he.1, SK.out _ _ (RegS.In.h _) he.2⟩)) | (go_at_call 11; with_reducible exact RegS.call (HCG.out _) (fun e w' he => ⟨he.1, SK.out _ _ (RegS.In.h _) he.2⟩)) | (go_at_call 11; with_reducible exact RegS.call (HCU.out _) (fun e w' he => ⟨he.1, SK.out _ _ (RegS.In.h _) he.2⟩)))) | quiet_step ((first | (go_at_call 9; with_reducible exact RegS.call (HSU.out _) (fun e w' he => ⟨he.1, SK.out _ _ (RegS.In.h _) he.2⟩)) | (go_at_call 11; with_reducible exact RegS.call (HCG.out _) (fun e w' he => ⟨he.1, SK.out _ _ (RegS.In.h _) he.2⟩)) | (go_at_call 11; with_reducible exact RegS.call (HCU.out _) (fun e w' he => ⟨he.1, SK.out _ _ (RegS.In.h _) he.2⟩)))))
                    refine wpQuiet_nil ?_
                    intro wz hw'
                    obtain ⟨⟨wq, hSq⟩, hw''⟩ := hw'
                    have hS : GS (wr.alloc (.cells #[.int .i64 (k : Int), .int .i64 ((k : Int) + 1)] 26)) wz := by rw [hw'']; exact hSq
                    clear hSq hw'' wq
                    have HGZ := Lib.hid (HGN.out.trans (hS.mono HNS.out))
                    clear hS
                    go_wp2
                    go_roundw
                    case rel => exact ⟨k + 1, by omega, by go_num, HGZ⟩
                    case measure => simp [intOf]; omega
                · have hq2 := HQ2.out rfl
                  rw [show decide (p ≤ (k : Int) ∧ (k : Int) < q) = false from decide_eq_false (fun h => h6 h.2), Bool.false_and] at hq2
                  subst hq2
                  have hd6 : decide ((k : Int) < q) = false := decide_eq_false h6
                  clear HQ2 HCU
                  go_wp2
                  refine RegS.region (GS (wr.alloc (.cells #[.int .i64 (k : Int), .int .i64 ((k : Int) + 1)] 26))) (by kernel_rfl) (by kernel_rfl) HSD2.out ?_
                  haveI : Nonempty (RegS.In (GS (wr.alloc (.cells #[.int .i64 (k : Int), .int .i64 ((k : Int) + 1)] 26)))) := ⟨⟨_, HSD2.out⟩⟩
                  repeat (first | go_big_quiet_step ((first | (go_at_call 9; with_reducible exact RegS.call (HSU.out _) (fun e w' he => ⟨he.1, SK.out _ _ (RegS.In.h _) he.2⟩)) | (go_at_call 11; with_reducible exact RegS.call (HCG.out _) (fun e w' he => ⟨he.1, SK.out _ _ (RegS.In.h _) he.2⟩)))) | quiet_step ((first | (go_at_call 9; with_reducible exact RegS.call (HSU.out _) (fun e w' he => ⟨he.1, SK.out _ _ (RegS.In.h _) he.2⟩)) | (go_at_call 11; with_reducible exact RegS.call (HCG.out _) (fun e w' he => ⟨he.1, SK.out _ _ (RegS.In.h _) he.2⟩)))))
                  refine wpQuiet_nil ?_
                  intro wz hw'
                  obtain ⟨⟨wq, hSq⟩, hw''⟩ := hw'
                  have hS : GS (wr.alloc (.cells #[.int .i64 (k : Int), .int .i64 ((k : Int) + 1)] 26)) wz := by rw [hw'']; exact hSq
                  clear hSq hw'' wq
                  have HGZ := Lib.hid (HGN.out.trans (hS.mono HNS.out))
                  clear hS
                  go_wp2
                  go_roundw
                  case rel => exact ⟨k + 1, by omega, by go_num, HGZ⟩
                  case measure => simp [intOf]; omega
              · have hq2 := HQ2.out rfl
                rw [show decide (p ≤ (k : Int) ∧ (k : Int) < q) = false from decide_eq_false (fun h => h5 h.1), Bool.false_and] at hq2
                subst hq2
                have hd5 : decide (p ≤ (k : Int)) = false := decide_eq_false h5
                clear HQ2 HCU
                go_wp2
                refine RegS.region (GS (wr.alloc (.cells #[.int .i64 (k : Int), .int .i64 ((k : Int) + 1)] 26))) (by kernel_rfl) (by kernel_rfl) HSD2.out ?_
                haveI : Nonempty (RegS.In (GS (wr.alloc (.cells #[.int .i64 (k : Int), .int .i64 ((k : Int) + 1)] 26)))) := ⟨⟨_, HSD2.out⟩⟩
                repeat (first | go_big_quiet_step ((first | (go_at_call 9; with_reducible exact RegS.call (HSU.out _) (fun e w' he => ⟨he.1, SK.out _ _ (RegS.In.h _) he.2⟩)) | (go_at_call 11; with_reducible exact RegS.call (HCG.out _) (fun e w' he => ⟨he.1, SK.out _ _ (RegS.In.h _) he.2⟩)))) | quiet_step ((first | (go_at_call 9; with_reducible exact RegS.call (HSU.out _) (fun e w' he => ⟨he.1, SK.out _ _ (RegS.In.h _) he.2⟩)) | (go_at_call 11; with_reducible exact RegS.call (HCG.out _) (fun e w' he => ⟨he.1, SK.out _ _ (RegS.In.h _) he.2⟩)))))
                refine wpQuiet_nil ?_
                intro wz hw'
                obtain ⟨⟨wq, hSq⟩, hw''⟩ := hw'
                have hS : GS (wr.alloc (.cells #[.int .i64 (k : Int), .int .i64 ((k : Int) + 1)] 26)) wz := by rw [hw'']; exact hSq
                clear hSq hw'' wq
                have HGZ := Lib.hid (HGN.out.trans (hS.mono HNS.out))
                clear hS
                go_wp2
                go_roundw
                case rel => exact ⟨k + 1, by omega, by go_num, HGZ⟩
                case measure => simp [intOf]; omega
          | false =>
            rw [Bool.false_or] at hq1e
            by_cases h3 : a ≤ (k : Int)
            · by_cases h4 : (k : Int) < b
              · rw [show decide (a ≤ (k : Int) ∧ (k : Int) < b ∧ b ≤ 1000000000000) = true from decide_eq_true ⟨h3, h4, hbm⟩] at hq1e
                subst hq1e
                go_wp2
                refine RegS.region (GS (wr.alloc (.cells #[.int .i64 (k : Int), .int .i64 ((k : Int) + 1)] 26))) (by kernel_rfl) (by kernel_rfl) HSD.out ?_
                haveI : Nonempty (RegS.In (GS (wr.alloc (.cells #[.int .i64 (k : Int), .int .i64 ((k : Int) + 1)] 26)))) := ⟨⟨_, HSD.out⟩⟩
                repeat (first | go_big_quiet_step ((first | (go_at_call 10; with_reducible exact RegS.call (HCY.out _) (fun e w' he => ⟨he.1, SK.out _ _ (RegS.In.h _) he.2⟩)) | (go_at_call 11; with_reducible exact RegS.call (HCL.out _) (fun e w' he => ⟨he.1, SK.out _ _ (RegS.In.h _) he.2⟩)))) | quiet_step ((first | (go_at_call 10; with_reducible exact RegS.call (HCY.out _) (fun e w' he => ⟨he.1, SK.out _ _ (RegS.In.h _) he.2⟩)) | (go_at_call 11; with_reducible exact RegS.call (HCL.out _) (fun e w' he => ⟨he.1, SK.out _ _ (RegS.In.h _) he.2⟩)))))
                refine wpQuiet_nil ?_
                intro wz hw'
                obtain ⟨⟨wq, hSq⟩, hw''⟩ := hw'
                have hS : GS (wr.alloc (.cells #[.int .i64 (k : Int), .int .i64 ((k : Int) + 1)] 26)) wz := by rw [hw'']; exact hSq
                clear hSq hw'' wq
                have HSD2 := Lib.hid (show GS _ wz.drew from Rec.below_drew hS)
                clear hS
                cases su with
                | false =>
                  clear HCG HCU HQ2
                  go_wp2
                  refine RegS.region (GS (wr.alloc (.cells #[.int .i64 (k : Int), .int .i64 ((k : Int) + 1)] 26))) (by kernel_rfl) (by kernel_rfl) HSD2.out ?_
                  haveI : Nonempty (RegS.In (GS (wr.alloc (.cells #[.int .i64 (k : Int), .int .i64 ((k : Int) + 1)] 26)))) := ⟨⟨_, HSD2.out⟩⟩
                  repeat (first | go_big_quiet_step ((first | (go_at_call 9; with_reducible exact RegS.call (HSU.out _) (fun e w' he => ⟨he.1, SK.out _ _ (RegS.In.h _) he.2⟩)))) | quiet_step ((first | (go_at_call 9; with_reducible exact RegS.call (HSU.out _) (fun e w' he => ⟨he.1, SK.out _ _ (RegS.In.h _) he.2⟩)))))
                  refine wpQuiet_nil ?_
                  intro wz hw'
                  obtain ⟨⟨wq, hSq⟩, hw''⟩ := hw'
                  have hS : GS (wr.alloc (.cells #[.int .i64 (k : Int), .int .i64 ((k : Int) + 1)] 26)) wz := by rw [hw'']; exact hSq
                  clear hSq hw'' wq
                  have HGZ := Lib.hid (HGN.out.trans (hS.mono HNS.out))
                  clear hS
                  go_wp2
                  go_roundw
                  case rel => exact ⟨k + 1, by omega, by go_num, HGZ⟩
                  case measure => simp [intOf]; omega
                | true =>
                  by_cases h5 : p ≤ (k : Int)
                  · by_cases h6 : (k : Int) < q
                    · have hq2 := HQ2.out rfl
                      rw [show decide (p ≤ (k : Int) ∧ (k : Int) < q) = true from decide_eq_true ⟨h5, h6⟩, Bool.true_and] at hq2
                      subst hq2
                      clear HQ2
                      cases c4 with
                      | true =>
                        go_wp2
                        refine RegS.region (GS (wr.alloc (.cells #[.int .i64 (k : Int), .int .i64 ((k : Int) + 1)] 26))) (by kernel_rfl) (by kernel_rfl) HSD2.out ?_
                        haveI : Nonempty (RegS.In (GS (wr.alloc (.cells #[.int .i64 (k : Int), .int .i64 ((k : Int) + 1)] 26)))) := ⟨⟨_, HSD2.out⟩⟩
                        repeat (first | go_big_quiet_step ((first | (go_at_call 9; with_reducible exact RegS.call (HSU.out _) (fun e w' he => ⟨he.1, SK.out _ _ (RegS.In.h _) he.2⟩)) | (go_at_call 11; with_reducible exact RegS.call (HCG.out _) (fun e w' he => ⟨he.1, SK.out _ _ (RegS.In.h _) he.2⟩)) | (go_at_call 11; with_reducible exact RegS.call (HCU.out _) (fun e w' he => ⟨he.1, SK.out _ _ (RegS.In.h _) he.2⟩)))) | quiet_step ((first | (go_at_call 9; with_reducible exact RegS.call (HSU.out _) (fun e w' he => ⟨he.1, SK.out _ _ (RegS.In.h _) he.2⟩)) | (go_at_call 11; with_reducible exact RegS.call (HCG.out _) (fun e w' he => ⟨he.1, SK.out _ _ (RegS.In.h _) he.2⟩)) | (go_at_call 11; with_reducible exact RegS.call (HCU.out _) (fun e w' he => ⟨he.1, SK.out _ _ (RegS.In.h _) he.2⟩)))))
                        refine wpQuiet_nil ?_
                        intro wz hw'
                        obtain ⟨⟨wq, hSq⟩, hw''⟩ := hw'
                        have hS : GS (wr.alloc (.cells #[.int .i64 (k : Int), .int .i64 ((k : Int) + 1)] 26)) wz := by rw [hw'']; exact hSq
                        clear hSq hw'' wq
                        have HGZ := Lib.hid (HGN.out.trans (hS.mono HNS.out))
                        clear hS
                        go_wp2
                        go_roundw
                        case rel => exact ⟨k + 1, by omega, by go_num, HGZ⟩
                        case measure => simp [intOf]; omega
                      | false =>
                        go_wp2
                        refine RegS.region (GS (wr.alloc (.cells #[.int .i64 (k : Int), .int .i64 ((k : Int) + 1)] 26))) (by kernel_rfl) (by kernel_rfl) HSD2.out ?_
                        haveI : Nonempty (RegS.In (GS (wr.alloc (.cells #[.int .i64 (k : Int), .int .i64 ((k : Int) + 1)] 26)))) := ⟨⟨_, HSD2.out⟩⟩
                        repeat (first | go_big_quiet_step ((first | (go_at_call 9; with_reducible exact RegS.call (HSU.out _) (fun e w' he => ⟨he.1, SK.out _ _ (RegS.In.h _) he.2⟩)) | (go_at_call 11; with_reducible exact RegS.call (HCG.out _) (fun e w' he => ⟨he.1, SK.out _ _ (RegS.In.h _) he.2⟩)) | (go_at_call 11; with_reducible exact RegS.call (HCU.out _) (fun e w' he => ⟨he.1, SK.out _ _ (RegS.In.h _) he.2⟩)))) | quiet_step ((first | (go_at_call 9; with_reducible exact RegS.call (HSU.out _) (fun e w' he => ⟨he.1, SK.out _ _ (RegS.In.h _) he.2⟩)) | (go_at_call 11; with_reducible exact RegS.call (HCG.out _) (fun e w' he => ⟨he.1, SK.out _ _ (RegS.In.h _) he.2⟩)) | (go_at_call 11; with_reducible exact RegS.call (HCU.out _) (fun e w' he => ⟨he.1, SK.out _ _ (RegS.In.h _) he.2⟩)))))
                        refine wpQuiet_nil ?_
                        intro wz hw'
                        obtain ⟨⟨wq, hSq⟩, hw''⟩ := hw'
                        have hS : GS (wr.alloc (.cells #[.int .i64 (k : Int), .int .i64 ((k : Int) + 1)] 26)) wz := by rw [hw'']; exact hSq
                        clear hSq hw'' wq
                        have HGZ := Lib.hid (HGN.out.trans (hS.mono HNS.out))
                        clear hS
                        go_wp2
                        go_roundw
                        case rel => exact ⟨k + 1, by omega, by go_num, HGZ⟩
                        case measure => simp [intOf]; omega
                    · have hq2 := HQ2.out rfl
                      rw [show decide (p ≤ (k : Int) ∧ (k : Int) < q) = false from decide_eq_false (fun h => h6 h.2), Bool.false_and] at hq2
                      subst hq2
                      have hd6 : decide ((k : Int) < q) = false := decide_eq_false h6
                      clear HQ2 HCU
                      go_wp2
                      refine RegS.region (GS (wr.alloc (.cells #[.int .i64 (k : Int), .int .i64 ((k : Int) + 1)] 26))) (by kernel_rfl) (by kernel_rfl) HSD2.out ?_
                      haveI : Nonempty (RegS.In (GS (wr.alloc (.cells #[.int .i64 (k : Int), .int .i64 ((k : Int) + 1)] 26)))) := ⟨⟨_, HSD2.out⟩⟩
                      repeat (first | go_big_quiet_step ((first | (go_at_call 9; with_reducible exact RegS.call (HSU.out _) (fun e w' he => ⟨he.1, SK.out _ _ (RegS.In.h _) he.2⟩)) | (go_at_call 11; with_reducible exact RegS.call (HCG.out _) (fun e w' he => ⟨he.1, SK.out _ _ (RegS.In.h _) he.2⟩)))) | quiet_step ((first | (go_at_call 9; with_reducible exact RegS.call (HSU.out _) (fun e w' he => ⟨he.1, SK.out _ _ (RegS.In.h _) he.2⟩)) | (go_at_call 11; with_reducible exact RegS.call (HCG.out _) (fun e w' he => ⟨he.1, SK.out _ _ (RegS.In.h _) he.2⟩)))))
                      refine wpQuiet_nil ?_
                      intro wz hw'
                      obtain ⟨⟨wq, hSq⟩, hw''⟩ := hw'
                      have hS : GS (wr.alloc (.cells #[.int .i64 (k : Int), .int .i64 ((k : Int) + 1)] 26)) wz := by rw [hw'']; exact hSq
                      clear hSq hw'' wq
                      have HGZ := Lib.hid (HGN.out.trans (hS.mono HNS.out))
                      clear hS
                      go_wp2
                      go_roundw
                      case rel => exact ⟨k + 1, by omega, by go_num, HGZ⟩
                      case measure => simp [intOf]; omega
                  · have hq2 := HQ2.out rfl
                    rw [show decide (p ≤ (k : Int) ∧ (k : Int) < q) = false from decide_eq_false (fun h => h5 h.1), Bool.false_and] at hq2
                    subst hq2
                    have hd5 : decide (p ≤ (k : Int)) = false := decide_eq_false h5
                    clear HQ2 HCU
                    go_wp2
                    refine RegS.region (GS (wr.alloc (.cells #[.int .i64 (k : Int), .int .i64 ((k : Int) + 1)] 26))) (by kernel_rfl) (by kernel_rfl) HSD2.out ?_
                    haveI : Nonempty (RegS.In (GS (wr.alloc (.cells #[.int .i64 (k : Int), .int .i64 ((k : Int) + 1)] 26)))) := ⟨⟨_, HSD2.out⟩⟩
                    repeat (first | go_big_quiet_step ((first | (go_at_call 9; with_reducible exact RegS.call (HSU.out _) (fun e w' he => ⟨he.1, SK.out _ _ (RegS.In.h _) he.2⟩)) | (go_at_call 11; with_reducible exact RegS.call (HCG.out _) (fun e w' he => ⟨he.1, SK.out _ _ (RegS.In.h _) he.2⟩)))) | quiet_step ((first | (go_at_call 9; with_reducible exact RegS.call (HSU.out _) (fun e w' he => ⟨he.1, SK.out _ _ (RegS.In.h _) he.2⟩)) | (go_at_call 11; with_reducible exact RegS.call (HCG.out _) (fun e w' he => ⟨he.1, SK.out _ _ (RegS.In.h _) he.2⟩)))))
                    refine wpQuiet_nil ?_
                    intro wz hw'
                    obtain ⟨⟨wq, hSq⟩, hw''⟩ := hw'
                    have hS : GS (wr.alloc (.cells #[.int .i64 (k : Int), .int .i64 ((k : Int) + 1)] 26)) wz := by rw [hw'']; exact hSq
                    clear hSq hw'' wq
                    have HGZ := Lib.hid (HGN.out.trans (hS.mono HNS.out))
                    clear hS
                    go_wp2
                    go_roundw
                    case rel => exact ⟨k + 1, by omega, by go_num, HGZ⟩
                    case measure => simp [intOf]; omega
              · rw [show decide (a ≤ (k : Int) ∧ (k : Int) < b ∧ b ≤ 1000000000000) = false from decide_eq_false (fun h => h4 h.2.1)] at hq1e
                subst hq1e
                have hd4 : decide ((k : Int) < b) = false := decide_eq_false h4
                go_wp2
                refine RegS.region (GS (wr.alloc (.cells #[.int .i64 (k : Int), .int .i64 ((k : Int) + 1)] 26))) (by kernel_rfl) (by kernel_rfl) HSD.out ?_
                haveI : Nonempty (RegS.In (GS (wr.alloc (.cells #[.int .i64 (k : Int), .int .i64 ((k : Int) + 1)] 26)))) := ⟨⟨_, HSD.out⟩⟩
                repeat (first | go_big_quiet_step ((first | (go_at_call 10; with_reducible exact RegS.call (HCY.out _) (fun e w' he => ⟨he.1, SK.out _ _ (RegS.In.h _) he.2⟩)) | (go_at_call 11; with_reducible exact RegS.call (HCL.out _) (fun e w' he => ⟨he.1, SK.out _ _ (RegS.In.h _) he.2⟩)))) | quiet_step ((first | (go_at_call 10; with_reducible exact RegS.call (HCY.out _) (fun e w' he => ⟨he.1, SK.out _ _ (RegS.In.h _) he.2⟩)) | (go_at_call 11; with_reducible exact RegS.call (HCL.out _) (fun e w' he => ⟨he.1, SK.out _ _ (RegS.In.h _) he.2⟩)))))
                refine wpQuiet_nil ?_
                intro wz hw'
                obtain ⟨⟨wq, hSq⟩, hw''⟩ := hw'
                have hS : GS (wr.alloc (.cells #[.int .i64 (k : Int), .int .i64 ((k : Int) + 1)] 26)) wz := by rw [hw'']; exact hSq
                clear hSq hw'' wq
                have HSD2 := Lib.hid (show GS _ wz.drew from Rec.below_drew hS)
                clear hS
                cases su with
                | false =>
                  clear HCG HCU HQ2
                  go_wp2
                  refine RegS.region (GS (wr.alloc (.cells #[.int .i64 (k : Int), .int .i64 ((k : Int) + 1)] 26))) (by kernel_rfl) (by kernel_rfl) HSD2.out ?_
                  haveI : Nonempty (RegS.In (GS (wr.alloc (.cells #[.int .i64 (k : Int), .int .i64 ((k : Int) + 1)] 26)))) := ⟨⟨_, HSD2.out⟩⟩
                  repeat (first | go_big_quiet_step ((first | (go_at_call 9; with_reducible exact RegS.call (HSU.out _) (fun e w' he => ⟨he.1, SK.out _ _ (RegS.In.h _) he.2⟩)))) | quiet_step ((first | (go_at_call 9; with_reducible exact RegS.call (HSU.out _) (fun e w' he => ⟨he.1, SK.out _ _ (RegS.In.h _) he.2⟩)))))
                  refine wpQuiet_nil ?_
                  intro wz hw'
                  obtain ⟨⟨wq, hSq⟩, hw''⟩ := hw'
                  have hS : GS (wr.alloc (.cells #[.int .i64 (k : Int), .int .i64 ((k : Int) + 1)] 26)) wz := by rw [hw'']; exact hSq
                  clear hSq hw'' wq
                  have HGZ := Lib.hid (HGN.out.trans (hS.mono HNS.out))
                  clear hS
                  go_wp2
                  go_roundw
                  case rel => exact ⟨k + 1, by omega, by go_num, HGZ⟩
                  case measure => simp [intOf]; omega
                | true =>
                  by_cases h5 : p ≤ (k : Int)
                  · by_cases h6 : (k : Int) < q
                    · have hq2 := HQ2.out rfl
                      rw [show decide (p ≤ (k : Int) ∧ (k : Int) < q) = true from decide_eq_true ⟨h5, h6⟩, Bool.true_and] at hq2
                      subst hq2
                      clear HQ2
                      cases c4 with
                      | true =>
                        go_wp2
                        refine RegS.region (GS (wr.alloc (.cells #[.int .i64 (k : Int), .int .i64 ((k : Int) + 1)] 26))) (by kernel_rfl) (by kernel_rfl) HSD2.out ?_
                        haveI : Nonempty (RegS.In (GS (wr.alloc (.cells #[.int .i64 (k : Int), .int .i64 ((k : Int) + 1)] 26)))) := ⟨⟨_, HSD2.out⟩⟩
                        repeat (first | go_big_quiet_step ((first | (go_at_call 9; with_reducible exact RegS.call (HSU.out _) (fun e w' he => ⟨he.1, SK.out _ _ (RegS.In.h _) he.2⟩)) | (go_at_call 11; with_reducible exact RegS.call (HCG.out _) (fun e w' he => ⟨he.1, SK.out _ _ (RegS.In.h _) he.2⟩)) | (go_at_call 11; with_reducible exact RegS.call (HCU.out _) (fun e w' he => ⟨he.1, SK.out _ _ (RegS.In.h _) he.2⟩)))) | quiet_step ((first | (go_at_call 9; with_reducible exact RegS.call (HSU.out _) (fun e w' he => ⟨he.1, SK.out _ _ (RegS.In.h _) he.2⟩)) | (go_at_call 11; with_reducible exact RegS.call (HCG.out _) (fun e w' he => ⟨he.1, SK.out _ _ (RegS.In.h _) he.2⟩)) | (go_at_call 11; with_reducible exact RegS.call (HCU.out _) (fun e w' he => ⟨he.1, SK.out _ _ (RegS.In.h _) he.2⟩)))))
                        refine wpQuiet_nil ?_
                        intro wz hw'
                        obtain ⟨⟨wq, hSq⟩, hw''⟩ := hw'
                        have hS : GS (wr.alloc (.cells #[.int .i64 (k : Int), .int .i64 ((k : Int) + 1)] 26)) wz := by rw [hw'']; exact hSq
                        clear hSq hw'' wq
                        have HGZ := Lib.hid (HGN.out.trans (hS.mono HNS.out))
                        clear hS
                        go_wp2
                        go_roundw
                        case rel => exact ⟨k + 1, by omega, by go_num, HGZ⟩
                        case measure => simp [intOf]; omega
                      | false =>
                        go_wp2
                        refine RegS.region (GS (wr.alloc (.cells #[.int .i64 (k : Int), .int .i64 ((k : Int) + 1)] 26))) (by kernel_rfl) (by kernel_rfl) HSD2.out ?_
                        haveI : Nonempty (RegS.In (GS (wr.alloc (.cells #[.int .i64 (k : Int), .int .i64 ((k : Int) + 1)] 26)))) := ⟨⟨_, HSD2.out⟩⟩
                        repeat (first | go_big_quiet_step ((first | (go_at_call 9; with_reducible exact RegS.call (HSU.out _) (fun e w' he => ⟨he.1, SK.out _ _ (RegS.In.h _) he.2⟩)) | (go_at_call 11; with_reducible exact RegS.call (HCG.out _) (fun e w' he => ⟨he.1, SK.out _ _ (RegS.In.h _) he.2⟩)) | (go_at_call 11; with_reducible exact RegS.call (HCU.out _) (fun e w' he => ⟨he.1, SK.out _ _ (RegS.In.h _) he.2⟩)))) | quiet_step ((first | (go_at_call 9; with_reducible exact RegS.call (HSU.out _) (fun e w' he => ⟨he.1, SK.out _ _ (RegS.In.h _) he.2⟩)) | (go_at_call 11; with_reducible exact RegS.call (HCG.out _) (fun e w' he => ⟨he.1, SK.out _ _ (RegS.In.h _) he.2⟩)) | (go_at_call 11; with_reducible exact RegS.call (HCU.out _) (fun e w' he => ⟨he.1, SK.out _ _ (RegS.In.h _) he.2⟩)))))
                        refine wpQuiet_nil ?_
                        intro wz hw'
                        obtain ⟨⟨wq, hSq⟩, hw''⟩ := hw'
                        have hS : GS (wr.alloc (.cells #[.int .i64 (k : Int), .int .i64 ((k : Int) + 1)] 26)) wz := by rw [hw'']; exact hSq
                        clear hSq hw'' wq
                        have HGZ := Lib.hid (HGN.out.trans (hS.mono HNS.out))
                        clear hS
                        go_wp2
                        go_roundw
                        case rel => exact ⟨k + 1, by omega, by go_num, HGZ⟩
                        case measure => simp [intOf]; omega
                    · have hq2 := HQ2.out rfl
                      rw [show decide (p ≤ (k : Int) ∧ (k : Int) < q) = false from decide_eq_false (fun h => h6 h.2), Bool.false_and] at hq2
                      subst hq2
                      have hd6 : decide ((k : Int) < q) = false := decide_eq_false h6
                      clear HQ2 HCU
                      go_wp2
                      refine RegS.region (GS (wr.alloc (.cells #[.int .i64 (k : Int), .int .i64 ((k : Int) + 1)] 26))) (by kernel_rfl) (by kernel_rfl) HSD2.out ?_
                      haveI : Nonempty (RegS.In (GS (wr.alloc (.cells #[.int .i64 (k : Int), .int .i64 ((k : Int) + 1)] 26)))) := ⟨⟨_, HSD2.out⟩⟩
                      repeat (first | go_big_quiet_step ((first | (go_at_call 9; with_reducible exact RegS.call (HSU.out _) (fun e w' he => ⟨he.1, SK.out _ _ (RegS.In.h _) he.2⟩)) | (go_at_call 11; with_reducible exact RegS.call (HCG.out _) (fun e w' he => ⟨he.1, SK.out _ _ (RegS.In.h _) he.2⟩)))) | quiet_step ((first | (go_at_call 9; with_reducible exact RegS.call (HSU.out _) (fun e w' he => ⟨he.1, SK.out _ _ (RegS.In.h _) he.2⟩)) | (go_at_call 11; with_reducible exact RegS.call (HCG.out _) (fun e w' he => ⟨he.1, SK.out _ _ (RegS.In.h _) he.2⟩)))))
                      refine wpQuiet_nil ?_
                      intro wz hw'
                      obtain ⟨⟨wq, hSq⟩, hw''⟩ := hw'
                      have hS : GS (wr.alloc (.cells #[.int .i64 (k : Int), .int .i64 ((k : Int) + 1)] 26)) wz := by rw [hw'']; exact hSq
                      clear hSq hw'' wq
                      have HGZ := Lib.hid (HGN.out.trans (hS.mono HNS.out))
                      clear hS
                      go_wp2
                      go_roundw
                      case rel => exact ⟨k + 1, by omega, by go_num, HGZ⟩
                      case measure => simp [intOf]; omega
                  · have hq2 := HQ2.out rfl
                    rw [show decide (p ≤ (k : Int) ∧ (k : Int) < q) = false from decide_eq_false (fun h => h5 h.1), Bool.false_and] at hq2
                    subst hq2
                    have hd5 : decide (p ≤ (k : Int)) = false := decide_eq_false h5
                    clear HQ2 HCU
                    go_wp2
                    refine RegS.region (GS (wr.alloc (.cells #[.int .i64 (k : Int), .int .i64 ((k : Int) + 1)] 26))) (by kernel_rfl) (by kernel_rfl) HSD2.out ?_
                    haveI : Nonempty (RegS.In (GS (wr.alloc (.cells #[.int .i64 (k : Int), .int .i64 ((k : Int) + 1)] 26)))) := ⟨⟨_, HSD2.out⟩⟩
                    repeat (first | go_big_quiet_step ((first | (go_at_call 9; with_reducible exact RegS.call (HSU.out _) (fun e w' he => ⟨he.1, SK.out _ _ (RegS.In.h _) he.2⟩)) | (go_at_call 11; with_reducible exact RegS.call (HCG.out _) (fun e w' he => ⟨he.1, SK.out _ _ (RegS.In.h _) he.2⟩)))) | quiet_step ((first | (go_at_call 9; with_reducible exact RegS.call (HSU.out _) (fun e w' he => ⟨he.1, SK.out _ _ (RegS.In.h _) he.2⟩)) | (go_at_call 11; with_reducible exact RegS.call (HCG.out _) (fun e w' he => ⟨he.1, SK.out _ _ (RegS.In.h _) he.2⟩)))))
                    refine wpQuiet_nil ?_
                    intro wz hw'
                    obtain ⟨⟨wq, hSq⟩, hw''⟩ := hw'
                    have hS : GS (wr.alloc (.cells #[.int .i64 (k : Int), .int .i64 ((k : Int) + 1)] 26)) wz := by rw [hw'']; exact hSq
                    clear hSq hw'' wq
                    have HGZ := Lib.hid (HGN.out.trans (hS.mono HNS.out))
                    clear hS
                    go_wp2
                    go_roundw
                    case rel => exact ⟨k + 1, by omega, by go_num, HGZ⟩
                    case measure => simp [intOf]; omega
            · rw [show decide (a ≤ (k : Int) ∧ (k : Int) < b ∧ b ≤ 1000000000000) = false from decide_eq_false (fun h => h3 h.1)] at hq1e
              subst hq1e
              have hd3 : decide (a ≤ (k : Int)) = false := decide_eq_false h3
              go_wp2
              refine RegS.region (GS (wr.alloc (.cells #[.int .i64 (k : Int), .int .i64 ((k : Int) + 1)] 26))) (by kernel_rfl) (by kernel_rfl) HSD.out ?_
              haveI : Nonempty (RegS.In (GS (wr.alloc (.cells #[.int .i64 (k : Int), .int .i64 ((k : Int) + 1)] 26)))) := ⟨⟨_, HSD.out⟩⟩
              repeat (first | go_big_quiet_step ((first | (go_at_call 10; with_reducible exact RegS.call (HCY.out _) (fun e w' he => ⟨he.1, SK.out _ _ (RegS.In.h _) he.2⟩)) | (go_at_call 11; with_reducible exact RegS.call (HCL.out _) (fun e w' he => ⟨he.1, SK.out _ _ (RegS.In.h _) he.2⟩)))) | quiet_step ((first | (go_at_call 10; with_reducible exact RegS.call (HCY.out _) (fun e w' he => ⟨he.1, SK.out _ _ (RegS.In.h _) he.2⟩)) | (go_at_call 11; with_reducible exact RegS.call (HCL.out _) (fun e w' he => ⟨he.1, SK.out _ _ (RegS.In.h _) he.2⟩)))))
              refine wpQuiet_nil ?_
              intro wz hw'
              obtain ⟨⟨wq, hSq⟩, hw''⟩ := hw'
              have hS : GS (wr.alloc (.cells #[.int .i64 (k : Int), .int .i64 ((k : Int) + 1)] 26)) wz := by rw [hw'']; exact hSq
              clear hSq hw'' wq
              have HSD2 := Lib.hid (show GS _ wz.drew from Rec.below_drew hS)
              clear hS
              cases su with
              | false =>
                clear HCG HCU HQ2
                go_wp2
                refine RegS.region (GS (wr.alloc (.cells #[.int .i64 (k : Int), .int .i64 ((k : Int) + 1)] 26))) (by kernel_rfl) (by kernel_rfl) HSD2.out ?_
                haveI : Nonempty (RegS.In (GS (wr.alloc (.cells #[.int .i64 (k : Int), .int .i64 ((k : Int) + 1)] 26)))) := ⟨⟨_, HSD2.out⟩⟩
                repeat (first | go_big_quiet_step ((first | (go_at_call 9; with_reducible exact RegS.call (HSU.out _) (fun e w' he => ⟨he.1, SK.out _ _ (RegS.In.h _) he.2⟩)))) | quiet_step ((first | (go_at_call 9; with_reducible exact RegS.call (HSU.out _) (fun e w' he => ⟨he.1, SK.out _ _ (RegS.In.h _) he.2⟩)))))
                refine wpQuiet_nil ?_
                intro wz hw'
                obtain ⟨⟨wq, hSq⟩, hw''⟩ := hw'
                have hS : GS (wr.alloc (.cells #[.int .i64 (k : Int), .int .i64 ((k : Int) + 1)] 26)) wz := by rw [hw'']; exact hSq
                clear hSq hw'' wq
                have HGZ := Lib.hid (HGN.out.trans (hS.mono HNS.out))
                clear hS
                go_wp2
                go_roundw
                case rel => exact ⟨k + 1, by omega, by go_num, HGZ⟩
                case measure => simp [intOf]; omega
              | true =>
                by_cases h5 : p ≤ (k : Int)
                · by_cases h6 : (k : Int) < q
                  · have hq2 := HQ2.out rfl
                    rw [show decide (p ≤ (k : Int) ∧ (k : Int) < q) = true from decide_eq_true ⟨h5, h6⟩, Bool.true_and] at hq2
                    subst hq2
                    clear HQ2
                    cases c4 with
                    | true =>
                      go_wp2
                      refine RegS.region (GS (wr.alloc (.cells #[.int .i64 (k : Int), .int .i64 ((k : Int) + 1)] 26))) (by kernel_rfl) (by kernel_rfl) HSD2.out ?_
                      haveI : Nonempty (RegS.In (GS (wr.alloc (.cells #[.int .i64 (k : Int), .int .i64 ((k : Int) + 1)] 26)))) := ⟨⟨_, HSD2.out⟩⟩
                      repeat (first | go_big_quiet_step ((first | (go_at_call 9; with_reducible exact RegS.call (HSU.out _) (fun e w' he => ⟨he.1, SK.out _ _ (RegS.In.h _) he.2⟩)) | (go_at_call 11; with_reducible exact RegS.call (HCG.out _) (fun e w' he => ⟨he.1, SK.out _ _ (RegS.In.h _) he.2⟩)) | (go_at_call 11; with_reducible exact RegS.call (HCU.out _) (fun e w' he => ⟨he.1, SK.out _ _ (RegS.In.h _) he.2⟩)))) | quiet_step ((first | (go_at_call 9; with_reducible exact RegS.call (HSU.out _) (fun e w' he => ⟨he.1, SK.out _ _ (RegS.In.h _) he.2⟩)) | (go_at_call 11; with_reducible exact RegS.call (HCG.out _) (fun e w' he => ⟨he.1, SK.out _ _ (RegS.In.h _) he.2⟩)) | (go_at_call 11; with_reducible exact RegS.call (HCU.out _) (fun e w' he => ⟨he.1, SK.out _ _ (RegS.In.h _) he.2⟩)))))
                      refine wpQuiet_nil ?_
                      intro wz hw'
                      obtain ⟨⟨wq, hSq⟩, hw''⟩ := hw'
                      have hS : GS (wr.alloc (.cells #[.int .i64 (k : Int), .int .i64 ((k : Int) + 1)] 26)) wz := by rw [hw'']; exact hSq
                      clear hSq hw'' wq
                      have HGZ := Lib.hid (HGN.out.trans (hS.mono HNS.out))
                      clear hS
                      go_wp2
                      go_roundw
                      case rel => exact ⟨k + 1, by omega, by go_num, HGZ⟩
                      case measure => simp [intOf]; omega
                    | false =>
                      go_wp2
                      refine RegS.region (GS (wr.alloc (.cells #[.int .i64 (k : Int), .int .i64 ((k : Int) + 1)] 26))) (by kernel_rfl) (by kernel_rfl) HSD2.out ?_
                      haveI : Nonempty (RegS.In (GS (wr.alloc (.cells #[.int .i64 (k : Int), .int .i64 ((k : Int) + 1)] 26)))) := ⟨⟨_, HSD2.out⟩⟩
                      repeat (first | go_big_quiet_step ((first | (go_at_call 9; with_reducible exact RegS.call (HSU.out _) (fun e w' he => ⟨he.1, SK.out _ _ (RegS.In.h _) he.2⟩)) | (go_at_call 11; with_reducible exact RegS.call (HCG.out _) (fun e w' he => ⟨he.1, SK.out _ _ (RegS.In.h _) he.2⟩)) | (go_at_call 11; with_reducible exact RegS.call (HCU.out _) (fun e w' he => ⟨he.1, SK.out _ _ (RegS.In.h _) he.2⟩)))) | quiet_step ((first | (go_at_call 9; with_reducible exact RegS.call (HSU.out _) (fun e w' he => ⟨he.1, SK.out _ _ (RegS.In.h _) he.2⟩)) | (go_at_call 11; with_reducible exact RegS.call (HCG.out _) (fun e w' he => ⟨he.1, SK.out _ _ (RegS.In.h _) he.2⟩)) | (go_at_call 11; with_reducible exact RegS.call (HCU.out _) (fun e w' he => ⟨he.1, SK.out _ _ (RegS.In.h _) he.2⟩)))))
                      refine wpQuiet_nil ?_
                      intro wz hw'
                      obtain ⟨⟨wq, hSq⟩, hw''⟩ := hw'
                      have hS : GS (wr.alloc (.cells #[.int .i64 (k : Int), .int .i64 ((k : Int) + 1)] 26)) wz := by rw [hw'']; exact hSq
                      clear hSq hw'' wq
                      have HGZ := Lib.hid (HGN.out.trans (hS.mono HNS.out))
                      clear hS
                      go_wp2
                      go_roundw
                      case rel => exact ⟨k + 1, by omega, by go_num, HGZ⟩
                      case measure => simp [intOf]; omega
                  · have hq2 := HQ2.out rfl
                    rw [show decide (p ≤ (k : Int) ∧ (k : Int) < q) = false from decide_eq_false (fun h => h6 h.2), Bool.false_and] at hq2
                    subst hq2
                    have hd6 : decide ((k : Int) < q) = false := decide_eq_false h6
                    clear HQ2 HCU
                    go_wp2
                    refine RegS.region (GS (wr.alloc (.cells #[.int .i64 (k : Int), .int .i64 ((k : Int) + 1)] 26))) (by kernel_rfl) (by kernel_rfl) HSD2.out ?_
                    haveI : Nonempty (RegS.In (GS (wr.alloc (.cells #[.int .i64 (k : Int), .int .i64 ((k : Int) + 1)] 26)))) := ⟨⟨_, HSD2.out⟩⟩
                    repeat (first | go_big_quiet_step ((first | (go_at_call 9; with_reducible exact RegS.call (HSU.out _) (fun e w' he => ⟨he.1, SK.out _ _ (RegS.In.h _) he.2⟩)) | (go_at_call 11; with_reducible exact RegS.call (HCG.out _) (fun e w' he => ⟨he.1, SK.out _ _ (RegS.In.h _) he.2⟩)))) | quiet_step ((first | (go_at_call 9; with_reducible exact RegS.call (HSU.out _) (fun e w' he => ⟨he.1, SK.out _ _ (RegS.In.h _) he.2⟩)) | (go_at_call 11; with_reducible exact RegS.call (HCG.out _) (fun e w' he => ⟨he.1, SK.out _ _ (RegS.In.h _) he.2⟩)))))
                    refine wpQuiet_nil ?_
                    intro wz hw'
                    obtain ⟨⟨wq, hSq⟩, hw''⟩ := hw'
                    have hS : GS (wr.alloc (.cells #[.int .i64 (k : Int), .int .i64 ((k : Int) + 1)] 26)) wz := by rw [hw'']; exact hSq
                    clear hSq hw'' wq
                    have HGZ := Lib.hid (HGN.out.trans (hS.mono HNS.out))
                    clear hS
                    go_wp2
                    go_roundw
                    case rel => exact ⟨k + 1, by omega, by go_num, HGZ⟩
                    case measure => simp [intOf]; omega
                · have hq2 := HQ2.out rfl
                  rw [show decide (p ≤ (k : Int) ∧ (k : Int) < q) = false from decide_eq_false (fun h => h5 h.1), Bool.false_and] at hq2
                  subst hq2
                  have hd5 : decide (p ≤ (k : Int)) = false := decide_eq_false h5
                  clear HQ2 HCU
                  go_wp2
                  refine RegS.region (GS (wr.alloc (.cells #[.int .i64 (k : Int), .int .i64 ((k : Int) + 1)] 26))) (by kernel_rfl) (by kernel_rfl) HSD2.out ?_
                  haveI : Nonempty (RegS.In (GS (wr.alloc (.cells #[.int .i64 (k : Int), .int .i64 ((k : Int) + 1)] 26)))) := ⟨⟨_, HSD2.out⟩⟩
                  repeat (first | go_big_quiet_step ((first | (go_at_call 9; with_reducible exact RegS.call (HSU.out _) (fun e w' he => ⟨he.1, SK.out _ _ (RegS.In.h _) he.2⟩)) | (go_at_call 11; with_reducible exact RegS.call (HCG.out _) (fun e w' he => ⟨he.1, SK.out _ _ (RegS.In.h _) he.2⟩)))) | quiet_step ((first | (go_at_call 9; with_reducible exact RegS.call (HSU.out _) (fun e w' he => ⟨he.1, SK.out _ _ (RegS.In.h _) he.2⟩)) | (go_at_call 11; with_reducible exact RegS.call (HCG.out _) (fun e w' he => ⟨he.1, SK.out _ _ (RegS.In.h _) he.2⟩)))))
                  refine wpQuiet_nil ?_
                  intro wz hw'
                  obtain ⟨⟨wq, hSq⟩, hw''⟩ := hw'
                  have hS : GS (wr.alloc (.cells #[.int .i64 (k : Int), .int .i64 ((k : Int) + 1)] 26)) wz := by rw [hw'']; exact hSq
                  clear hSq hw'' wq
                  have HGZ := Lib.hid (HGN.out.trans (hS.mono HNS.out))
                  clear hS
                  go_wp2
                  go_roundw
                  case rel => exact ⟨k + 1, by omega, by go_num, HGZ⟩
                  case measure => simp [intOf]; omega
        · have B6 := Lib.hid (Base.then_below B5.out HG.out)
          have HY6 := Lib.hid (Spn.holds_below HY5.out HG.out)
          have HZ6 := Lib.hid HG.out.size
          clear HX5 HV5 HL5 HU5 HG5 HCA HCM HSZ B5 HY5 HG
          go_wp2_with (fail)
          go_at_call 12
          refine (Cur.draw_us _ _ _ (Cur.bytes_below HBY.out B6.out) B6.out.size).mono ?_
          rintro e w7 ⟨vw, lw, rfl, hlw, hsm, ow, b7⟩
          have B7 := Lib.hid (Base.then_below B6.out b7)
          have HY7 := Lib.hid (Spn.holds_below HY6.out (b7.mono HZ6.out))
          have HZ7 := Lib.hid (Nat.le_trans HZ6.out b7.size)
          have HW7 := Lib.hid (Spn.own_holds ow)
          have HSM := Lib.hid hsm
          have HUN := Lib.hid (Spn.impl_unite vw _ lw w7 (Spn.own_holds ow) (Nat.le_refl _) (by omega))
          have HCU := Lib.hid (fun s hs (h0 : 0 ≤ s.1) (h1 : s.2 ≤ 1000000000000) => Spn.cov_unite (w := lw) (s := s) hs h0 h1)
          have HUS := Lib.hid (Spn.unite_ok lw).1
          have hzl : (Spn.unite lw).length ≤ 5 := Nat.le_trans (Spn.unite_len lw) hlw
          have HFS := Lib.hid (sum_fit hsm hlw)
          unfold Spn.Got at HUN
          generalize Spn.unite lw = z at HUN HCU HUS hzl HFS
          obtain ⟨aw, cw, rfl, haw⟩ := Spn.shape HW7.out
          have HAW := Lib.hid haw
          clear b7 ow haw hsm B6 HY6 HZ6 xa xb
          go_wp2_with (fail)
          go_at_call 13
          refine HUN.out.mono ?_
          rintro e w8 ⟨vz, rfl, oz, b8⟩
          have B8 := Lib.hid (Base.then_below B7.out b8)
          have HY8 := Lib.hid (Spn.holds_below HY7.out (b8.mono HZ7.out))
          have HZ8 := Lib.hid (Nat.le_trans HZ7.out b8.size)
          have HW8 := Lib.hid (And.intro b8 b8.size)
          have HQ8 := Lib.hid (Spn.own_holds oz)
          clear b8 oz B7 HY7 HZ7 HUN
          go_wp2
          go_loopw [14] (fun i wr => ∃ m : Nat, m ≤ lw.length ∧ i = .int .i64 (m : Int) ∧ Hid (Below w8.heap.size w8 wr)) (fun i _ => lw.length - (intOf i).toNat)
          case atStart => exact ⟨0, Nat.zero_le _, rfl, Lib.hid (Below.refl _ _)⟩
          case round =>
            obtain ⟨m, hm, rfl, HM⟩ := hrel
            by_cases hlt : m < lw.length
            · obtain ⟨bw, off, rfl, hbw, _, hat⟩ := HAW.out (by omega)
              obtain ⟨d0, d1⟩ := Spn.at_cells (Spn.at_below (Spn.at_below hat HW8.out.1 hbw) HM.out (Nat.lt_of_lt_of_le hbw HW8.out.2)) hlt
              have hmem := Rec.getD_mem (z := Spn.nov) hlt
              have hsm := HSM.out _ hmem
              have hcv := HCU.out _ hmem
              generalize lw.getD m Spn.nov = s at d0 d1 hsm hcv
              obtain ⟨s1, s2⟩ := s
              obtain ⟨h1, h2, h3, h4⟩ := hsm
              dsimp only at d0 d1 h1 h2 h3 h4 hcv
              have HCV := Lib.hid (cov_i vz w8.heap.size z s1 s2 true wr (Spn.holds_below HQ8.out HM.out) HM.out.size (by omega) (hcv h1 (by omega)))
              have hmi : (m : Int) < (lw.length : Int) := by omega
              clear hmem hcv hat
              go_wp2_with (fail)
              go_at_call 10
              refine HCV.out.mono ?_
              rintro e wv ⟨rfl, bv⟩
              have HMV := Lib.hid (HM.out.trans (bv.mono HM.out.size))
              clear bv HCV d0 d1
              go_wp2
              go_roundw
              case rel => exact ⟨m + 1, by omega, by go_num, HMV⟩
              case measure => simp [intOf]; omega
            · have B9 := Lib.hid (Base.then_below B8.out HM.out)
              have hsw := HM.out.size
              have HW9 := Lib.hid (Spn.holds_below (Spn.holds_below HW7.out HW8.out.1) (HM.out.mono HW8.out.2))
              have HQ9 := Lib.hid (Spn.holds_below HQ8.out HM.out)
              have HY9 := Lib.hid (Spn.holds_below HY8.out (HM.out.mono HZ8.out))
              have HN9 := Lib.hid (Nat.le_trans HW8.out.2 hsw)
              have HO9 := Lib.hid (Nat.le_trans HZ8.out hsw)
              have hmi : ¬ (m : Int) < (lw.length : Int) := by omega
              clear HAW HSM HCU HM B8 HY8 HZ8 HW8 HQ8 HW7
              have HIY := Lib.hid (set_i vy _ y true wr HY9.out HO9.out (by omega) (HAS.out HGD.out))
              go_wp2_with (fail)
              go_at_call 14
              refine HIY.out.mono ?_
              rintro e wa ⟨rfl, ba⟩
              have B10 := Lib.hid (Base.then_below B9.out ba)
              have HW10 := Lib.hid (Spn.holds_below HW9.out (ba.mono HN9.out))
              have HQ10 := Lib.hid (Spn.holds_below HQ9.out (ba.mono hsw))
              have HN10 := Lib.hid (Nat.le_trans HN9.out ba.size)
              have hsw10 := Nat.le_trans hsw ba.size
              clear ba HIY B9 HW9 HQ9 HN9 hsw
              have HIZ := Lib.hid (set_i vz _ z true wa HQ10.out hsw10 (by omega) HUS.out)
              go_wp2_with (fail)
              go_at_call 14
              refine HIZ.out.mono ?_
              rintro e wb ⟨rfl, bb⟩
              have B11 := Lib.hid (Base.then_below B10.out bb)
              have HW11 := Lib.hid (Spn.holds_below HW10.out (bb.mono HN10.out))
              have HQ11 := Lib.hid (Spn.holds_below HQ10.out (bb.mono hsw10))
              have HN11 := Lib.hid (Nat.le_trans HN10.out bb.size)
              have hsw11 := Nat.le_trans hsw10 bb.size
              have HIS := Lib.hid (set_s vz _ z true wb HQ11.out hsw11 (by omega) HUS.out)
              clear bb HIZ B10 HW10 HQ10 HN10 hsw10
              go_wp2_with (fail)
              go_at_call 9
              refine HIS.out.mono ?_
              rintro e wc ⟨rfl, bc⟩
              have B12 := Lib.hid (Base.then_below B11.out bc)
              have HW12 := Lib.hid (Spn.holds_below HW11.out (bc.mono HN11.out))
              have HQ12 := Lib.hid (Spn.holds_below HQ11.out (bc.mono hsw11))
              have HN12 := Lib.hid (Nat.le_trans HN11.out bc.size)
              have hsw12 := Nat.le_trans hsw11 bc.size
              have HSZ1 := Lib.hid (Spn.impl_size vz _ z wc HQ12.out hsw12 (by omega))
              have HSZ2 := Lib.hid (fun W (hb : Below wc.heap.size wc W) => Spn.impl_size _ _ lw W (Spn.holds_below HW12.out (hb.mono HN12.out)) (Nat.le_trans HN12.out hb.size) (by omega))
              have hle := HFS.out
              unfold Spn.IntEnd at HSZ1 HSZ2
              generalize Spn.wsum z = n1 at HSZ1 hle
              generalize Spn.wsum lw = n2 at HSZ2 hle
              clear bc HIS B11 HW11 HQ11 HN11 hsw11
              go_wp2_with (fail)
              go_at_call 15
              refine HSZ1.out.mono ?_
              rintro e wd ⟨rfl, bd⟩
              have B13 := Lib.hid (Base.then_below B12.out bd)
              have HS2 := Lib.hid (HSZ2.out wd bd)
              clear bd HSZ1 HSZ2 B12 HW12 HQ12
              go_wp2_with (fail)
              go_at_call 15
              refine HS2.out.mono ?_
              rintro e we ⟨rfl, be⟩
              have B14 := Lib.hid (Base.then_below B13.out be)
              clear be HS2 B13
              go_wp2
              go_ret
              exact ⟨by simp [hle], B14.out⟩
      | false =>
        have B6 := Lib.hid (Base.then_below B5.out HG.out)
        have HY6 := Lib.hid (Spn.holds_below HY5.out HG.out)
        have HZ6 := Lib.hid HG.out.size
        clear HX5 HV5 HL5 HU5 HG5 HCA HCM HSZ B5 HY5 HG
        go_wp2_with (fail)
        go_at_call 12
        refine (Cur.draw_us _ _ _ (Cur.bytes_below HBY.out B6.out) B6.out.size).mono ?_
        rintro e w7 ⟨vw, lw, rfl, hlw, hsm, ow, b7⟩
        have B7 := Lib.hid (Base.then_below B6.out b7)
        have HY7 := Lib.hid (Spn.holds_below HY6.out (b7.mono HZ6.out))
        have HZ7 := Lib.hid (Nat.le_trans HZ6.out b7.size)
        have HW7 := Lib.hid (Spn.own_holds ow)
        have HSM := Lib.hid hsm
        have HUN := Lib.hid (Spn.impl_unite vw _ lw w7 (Spn.own_holds ow) (Nat.le_refl _) (by omega))
        have HCU := Lib.hid (fun s hs (h0 : 0 ≤ s.1) (h1 : s.2 ≤ 1000000000000) => Spn.cov_unite (w := lw) (s := s) hs h0 h1)
        have HUS := Lib.hid (Spn.unite_ok lw).1
        have hzl : (Spn.unite lw).length ≤ 5 := Nat.le_trans (Spn.unite_len lw) hlw
        have HFS := Lib.hid (sum_fit hsm hlw)
        unfold Spn.Got at HUN
        generalize Spn.unite lw = z at HUN HCU HUS hzl HFS
        obtain ⟨aw, cw, rfl, haw⟩ := Spn.shape HW7.out
        have HAW := Lib.hid haw
        clear b7 ow haw hsm B6 HY6 HZ6 xa xb
        go_wp2_with (fail)
        go_at_call 13
        refine HUN.out.mono ?_
        rintro e w8 ⟨vz, rfl, oz, b8⟩
        have B8 := Lib.hid (Base.then_below B7.out b8)
        have HY8 := Lib.hid (Spn.holds_below HY7.out (b8.mono HZ7.out))
        have HZ8 := Lib.hid (Nat.le_trans HZ7.out b8.size)
        have HW8 := Lib.hid (And.intro b8 b8.size)
        have HQ8 := Lib.hid (Spn.own_holds oz)
        clear b8 oz B7 HY7 HZ7 HUN
        go_wp2
        go_loopw [14] (fun i wr => ∃ m : Nat, m ≤ lw.length ∧ i = .int .i64 (m : Int) ∧ Hid (Below w8.heap.size w8 wr)) (fun i _ => lw.length - (intOf i).toNat)
        case atStart => exact ⟨0, Nat.zero_le _, rfl, Lib.hid (Below.refl _ _)⟩
        case round =>
          obtain ⟨m, hm, rfl, HM⟩ := hrel
          by_cases hlt : m < lw.length
          · obtain ⟨bw, off, rfl, hbw, _, hat⟩ := HAW.out (by omega)
            obtain ⟨d0, d1⟩ := Spn.at_cells (Spn.at_below (Spn.at_below hat HW8.out.1 hbw) HM.out (Nat.lt_of_lt_of_le hbw HW8.out.2)) hlt
            have hmem := Rec.getD_mem (z := Spn.nov) hlt
            have hsm := HSM.out _ hmem
            have hcv := HCU.out _ hmem
            generalize lw.getD m Spn.nov = s at d0 d1 hsm hcv
            obtain ⟨s1, s2⟩ := s
            obtain ⟨h1, h2, h3, h4⟩ := hsm
            dsimp only at d0 d1 h1 h2 h3 h4 hcv
            have HCV := Lib.hid (cov_i vz w8.heap.size z s1 s2 true wr (Spn.holds_below HQ8.out HM.out) HM.out.size (by omega) (hcv h1 (by omega)))
            have hmi : (m : Int) < (lw.length : Int) := by omega
            clear hmem hcv hat
            go_wp2_with (fail)
            go_at_call 10
            refine HCV.out.mono ?_
            rintro e wv ⟨rfl, bv⟩
            have HMV := Lib.hid (HM.out.trans (bv.mono HM.out.size))
            clear bv HCV d0 d1
            go_wp2
            go_roundw
            case rel => exact ⟨m + 1, by omega, by go_num, HMV⟩
            case measure => simp [intOf]; omega
          · have B9 := Lib.hid (Base.then_below B8.out HM.out)
            have hsw := HM.out.size
            have HW9 := Lib.hid (Spn.holds_below (Spn.holds_below HW7.out HW8.out.1) (HM.out.mono HW8.out.2))
            have HQ9 := Lib.hid (Spn.holds_below HQ8.out HM.out)
            have HY9 := Lib.hid (Spn.holds_below HY8.out (HM.out.mono HZ8.out))
            have HN9 := Lib.hid (Nat.le_trans HW8.out.2 hsw)
            have HO9 := Lib.hid (Nat.le_trans HZ8.out hsw)
            have hmi : ¬ (m : Int) < (lw.length : Int) := by omega
            clear HAW HSM HCU HM B8 HY8 HZ8 HW8 HQ8 HW7
            have B10 := B9
            have HW10 := HW9
            have HQ10 := HQ9
            have HN10 := HN9
            have hsw10 := hsw
            clear B9 HW9 HQ9 HN9 hsw
            have HIZ := Lib.hid (set_i vz _ z true wr HQ10.out hsw10 (by omega) HUS.out)
            go_wp2_with (fail)
            go_at_call 14
            refine HIZ.out.mono ?_
            rintro e wb ⟨rfl, bb⟩
            have B11 := Lib.hid (Base.then_below B10.out bb)
            have HW11 := Lib.hid (Spn.holds_below HW10.out (bb.mono HN10.out))
            have HQ11 := Lib.hid (Spn.holds_below HQ10.out (bb.mono hsw10))
            have HN11 := Lib.hid (Nat.le_trans HN10.out bb.size)
            have hsw11 := Nat.le_trans hsw10 bb.size
            have HIS := Lib.hid (set_s vz _ z true wb HQ11.out hsw11 (by omega) HUS.out)
            clear bb HIZ B10 HW10 HQ10 HN10 hsw10
            go_wp2_with (fail)
            go_at_call 9
            refine HIS.out.mono ?_
            rintro e wc ⟨rfl, bc⟩
            have B12 := Lib.hid (Base.then_below B11.out bc)
            have HW12 := Lib.hid (Spn.holds_below HW11.out (bc.mono HN11.out))
            have HQ12 := Lib.hid (Spn.holds_below HQ11.out (bc.mono hsw11))
            have HN12 := Lib.hid (Nat.le_trans HN11.out bc.size)
            have hsw12 := Nat.le_trans hsw11 bc.size
            have HSZ1 := Lib.hid (Spn.impl_size vz _ z wc HQ12.out hsw12 (by omega))
            have HSZ2 := Lib.hid (fun W (hb : Below wc.heap.size wc W) => Spn.impl_size _ _ lw W (Spn.holds_below HW12.out (hb.mono HN12.out)) (Nat.le_trans HN12.out hb.size) (by omega))
            have hle := HFS.out
            unfold Spn.IntEnd at HSZ1 HSZ2
            generalize Spn.wsum z = n1 at HSZ1 hle
            generalize Spn.wsum lw = n2 at HSZ2 hle
            clear bc HIS B11 HW11 HQ11 HN11 hsw11
            go_wp2_with (fail)
            go_at_call 15
            refine HSZ1.out.mono ?_
            rintro e wd ⟨rfl, bd⟩
            have B13 := Lib.hid (Base.then_below B12.out bd)
            have HS2 := Lib.hid (HSZ2.out wd bd)
            clear bd HSZ1 HSZ2 B12 HW12 HQ12
            go_wp2_with (fail)
            go_at_call 15
            refine HS2.out.mono ?_
            rintro e we ⟨rfl, be⟩
            have B14 := Lib.hid (Base.then_below B13.out be)
            clear be HS2 B13
            go_wp2
            go_ret
            exact ⟨by simp [hle], B14.out⟩
    · cases gd with
      | true =>
        have B6 := Lib.hid (Base.then_below B5.out HG.out)
        have HY6 := Lib.hid (Spn.holds_below HY5.out HG.out)
        have HZ6 := Lib.hid HG.out.size
        clear HX5 HV5 HL5 HU5 HG5 HCA HCM HSZ B5 HY5 HG
        go_wp2_with (fail)
        go_at_call 12
        refine (Cur.draw_us _ _ _ (Cur.bytes_below HBY.out B6.out) B6.out.size).mono ?_
        rintro e w7 ⟨vw, lw, rfl, hlw, hsm, ow, b7⟩
        have B7 := Lib.hid (Base.then_below B6.out b7)
        have HY7 := Lib.hid (Spn.holds_below HY6.out (b7.mono HZ6.out))
        have HZ7 := Lib.hid (Nat.le_trans HZ6.out b7.size)
        have HW7 := Lib.hid (Spn.own_holds ow)
        have HSM := Lib.hid hsm
        have HUN := Lib.hid (Spn.impl_unite vw _ lw w7 (Spn.own_holds ow) (Nat.le_refl _) (by omega))
        have HCU := Lib.hid (fun s hs (h0 : 0 ≤ s.1) (h1 : s.2 ≤ 1000000000000) => Spn.cov_unite (w := lw) (s := s) hs h0 h1)
        have HUS := Lib.hid (Spn.unite_ok lw).1
        have hzl : (Spn.unite lw).length ≤ 5 := Nat.le_trans (Spn.unite_len lw) hlw
        have HFS := Lib.hid (sum_fit hsm hlw)
        unfold Spn.Got at HUN
        generalize Spn.unite lw = z at HUN HCU HUS hzl HFS
        obtain ⟨aw, cw, rfl, haw⟩ := Spn.shape HW7.out
        have HAW := Lib.hid haw
        clear b7 ow haw hsm B6 HY6 HZ6 xa xb
        go_wp2_with (fail)
        go_at_call 13
        refine HUN.out.mono ?_
        rintro e w8 ⟨vz, rfl, oz, b8⟩
        have B8 := Lib.hid (Base.then_below B7.out b8)
        have HY8 := Lib.hid (Spn.holds_below HY7.out (b8.mono HZ7.out))
        have HZ8 := Lib.hid (Nat.le_trans HZ7.out b8.size)
        have HW8 := Lib.hid (And.intro b8 b8.size)
        have HQ8 := Lib.hid (Spn.own_holds oz)
        clear b8 oz B7 HY7 HZ7 HUN
        go_wp2
        go_loopw [14] (fun i wr => ∃ m : Nat, m ≤ lw.length ∧ i = .int .i64 (m : Int) ∧ Hid (Below w8.heap.size w8 wr)) (fun i _ => lw.length - (intOf i).toNat)
        case atStart => exact ⟨0, Nat.zero_le _, rfl, Lib.hid (Below.refl _ _)⟩
        case round =>
          obtain ⟨m, hm, rfl, HM⟩ := hrel
          by_cases hlt : m < lw.length
          · obtain ⟨bw, off, rfl, hbw, _, hat⟩ := HAW.out (by omega)
            obtain ⟨d0, d1⟩ := Spn.at_cells (Spn.at_below (Spn.at_below hat HW8.out.1 hbw) HM.out (Nat.lt_of_lt_of_le hbw HW8.out.2)) hlt
            have hmem := Rec.getD_mem (z := Spn.nov) hlt
            have hsm := HSM.out _ hmem
            have hcv := HCU.out _ hmem
            generalize lw.getD m Spn.nov = s at d0 d1 hsm hcv
            obtain ⟨s1, s2⟩ := s
            obtain ⟨h1, h2, h3, h4⟩ := hsm
            dsimp only at d0 d1 h1 h2 h3 h4 hcv
            have HCV := Lib.hid (cov_i vz w8.heap.size z s1 s2 true wr (Spn.holds_below HQ8.out HM.out) HM.out.size (by omega) (hcv h1 (by omega)))
            have hmi : (m : Int) < (lw.length : Int) := by omega
            clear hmem hcv hat
            go_wp2_with (fail)
            go_at_call 10
            refine HCV.out.mono ?_
            rintro e wv ⟨rfl, bv⟩
            have HMV := Lib.hid (HM.out.trans (bv.mono HM.out.size))
            clear bv HCV d0 d1
            go_wp2
            go_roundw
            case rel => exact ⟨m + 1, by omega, by go_num, HMV⟩
            case measure => simp [intOf]; omega
          · have B9 := Lib.hid (Base.then_below B8.out HM.out)
            have hsw := HM.out.size
            have HW9 := Lib.hid (Spn.holds_below (Spn.holds_below HW7.out HW8.out.1) (HM.out.mono HW8.out.2))
            have HQ9 := Lib.hid (Spn.holds_below HQ8.out HM.out)
            have HY9 := Lib.hid (Spn.holds_below HY8.out (HM.out.mono HZ8.out))
            have HN9 := Lib.hid (Nat.le_trans HW8.out.2 hsw)
            have HO9 := Lib.hid (Nat.le_trans HZ8.out hsw)
            have hmi : ¬ (m : Int) < (lw.length : Int) := by omega
            clear HAW HSM HCU HM B8 HY8 HZ8 HW8 HQ8 HW7
            have HIY := Lib.hid (set_i vy _ y true wr HY9.out HO9.out (by omega) (HAS.out HGD.out))
            go_wp2_with (fail)
            go_at_call 14
            refine HIY.out.mono ?_
            rintro e wa ⟨rfl, ba⟩
            have B10 := Lib.hid (Base.then_below B9.out ba)
            have HW10 := Lib.hid (Spn.holds_below HW9.out (ba.mono HN9.out))
            have HQ10 := Lib.hid (Spn.holds_below HQ9.out (ba.mono hsw))
            have HN10 := Lib.hid (Nat.le_trans HN9.out ba.size)
            have hsw10 := Nat.le_trans hsw ba.size
            clear ba HIY B9 HW9 HQ9 HN9 hsw
            have HIZ := Lib.hid (set_i vz _ z true wa HQ10.out hsw10 (by omega) HUS.out)
            go_wp2_with (fail)
            go_at_call 14
            refine HIZ.out.mono ?_
            rintro e wb ⟨rfl, bb⟩
            have B11 := Lib.hid (Base.then_below B10.out bb)
            have HW11 := Lib.hid (Spn.holds_below HW10.out (bb.mono HN10.out))
            have HQ11 := Lib.hid (Spn.holds_below HQ10.out (bb.mono hsw10))
            have HN11 := Lib.hid (Nat.le_trans HN10.out bb.size)
            have hsw11 := Nat.le_trans hsw10 bb.size
            have HIS := Lib.hid (set_s vz _ z true wb HQ11.out hsw11 (by omega) HUS.out)
            clear bb HIZ B10 HW10 HQ10 HN10 hsw10
            go_wp2_with (fail)
            go_at_call 9
            refine HIS.out.mono ?_
            rintro e wc ⟨rfl, bc⟩
            have B12 := Lib.hid (Base.then_below B11.out bc)
            have HW12 := Lib.hid (Spn.holds_below HW11.out (bc.mono HN11.out))
            have HQ12 := Lib.hid (Spn.holds_below HQ11.out (bc.mono hsw11))
            have HN12 := Lib.hid (Nat.le_trans HN11.out bc.size)
            have hsw12 := Nat.le_trans hsw11 bc.size
            have HSZ1 := Lib.hid (Spn.impl_size vz _ z wc HQ12.out hsw12 (by omega))
            have HSZ2 := Lib.hid (fun W (hb : Below wc.heap.size wc W) => Spn.impl_size _ _ lw W (Spn.holds_below HW12.out (hb.mono HN12.out)) (Nat.le_trans HN12.out hb.size) (by omega))
            have hle := HFS.out
            unfold Spn.IntEnd at HSZ1 HSZ2
            generalize Spn.wsum z = n1 at HSZ1 hle
            generalize Spn.wsum lw = n2 at HSZ2 hle
            clear bc HIS B11 HW11 HQ11 HN11 hsw11
            go_wp2_with (fail)
            go_at_call 15
            refine HSZ1.out.mono ?_
            rintro e wd ⟨rfl, bd⟩
            have B13 := Lib.hid (Base.then_below B12.out bd)
            have HS2 := Lib.hid (HSZ2.out wd bd)
            clear bd HSZ1 HSZ2 B12 HW12 HQ12
            go_wp2_with (fail)
            go_at_call 15
            refine HS2.out.mono ?_
            rintro e we ⟨rfl, be⟩
            have B14 := Lib.hid (Base.then_below B13.out be)
            clear be HS2 B13
            go_wp2
            go_ret
            exact ⟨by simp [hle], B14.out⟩
      | false =>
        have B6 := Lib.hid (Base.then_below B5.out HG.out)
        have HY6 := Lib.hid (Spn.holds_below HY5.out HG.out)
        have HZ6 := Lib.hid HG.out.size
        clear HX5 HV5 HL5 HU5 HG5 HCA HCM HSZ B5 HY5 HG
        go_wp2_with (fail)
        go_at_call 12
        refine (Cur.draw_us _ _ _ (Cur.bytes_below HBY.out B6.out) B6.out.size).mono ?_
        rintro e w7 ⟨vw, lw, rfl, hlw, hsm, ow, b7⟩
        have B7 := Lib.hid (Base.then_below B6.out b7)
        have HY7 := Lib.hid (Spn.holds_below HY6.out (b7.mono HZ6.out))
        have HZ7 := Lib.hid (Nat.le_trans HZ6.out b7.size)
        have HW7 := Lib.hid (Spn.own_holds ow)
        have HSM := Lib.hid hsm
        have HUN := Lib.hid (Spn.impl_unite vw _ lw w7 (Spn.own_holds ow) (Nat.le_refl _) (by omega))
        have HCU := Lib.hid (fun s hs (h0 : 0 ≤ s.1) (h1 : s.2 ≤ 1000000000000) => Spn.cov_unite (w := lw) (s := s) hs h0 h1)
        have HUS := Lib.hid (Spn.unite_ok lw).1
        have hzl : (Spn.unite lw).length ≤ 5 := Nat.le_trans (Spn.unite_len lw) hlw
        have HFS := Lib.hid (sum_fit hsm hlw)
        unfold Spn.Got at HUN
        generalize Spn.unite lw = z at HUN HCU HUS hzl HFS
        obtain ⟨aw, cw, rfl, haw⟩ := Spn.shape HW7.out
        have HAW := Lib.hid haw
        clear b7 ow haw hsm B6 HY6 HZ6 xa xb
        go_wp2_with (fail)
        go_at_call 13
        refine HUN.out.mono ?_
        rintro e w8 ⟨vz, rfl, oz, b8⟩
        have B8 := Lib.hid (Base.then_below B7.out b8)
        have HY8 := Lib.hid (Spn.holds_below HY7.out (b8.mono HZ7.out))
        have HZ8 := Lib.hid (Nat.le_trans HZ7.out b8.size)
        have HW8 := Lib.hid (And.intro b8 b8.size)
        have HQ8 := Lib.hid (Spn.own_holds oz)
        clear b8 oz B7 HY7 HZ7 HUN
        go_wp2
        go_loopw [14] (fun i wr => ∃ m : Nat, m ≤ lw.length ∧ i = .int .i64 (m : Int) ∧ Hid (Below w8.heap.size w8 wr)) (fun i _ => lw.length - (intOf i).toNat)
        case atStart => exact ⟨0, Nat.zero_le _, rfl, Lib.hid (Below.refl _ _)⟩
        case round =>
          obtain ⟨m, hm, rfl, HM⟩ := hrel
          by_cases hlt : m < lw.length
          · obtain ⟨bw, off, rfl, hbw, _, hat⟩ := HAW.out (by omega)
            obtain ⟨d0, d1⟩ := Spn.at_cells (Spn.at_below (Spn.at_below hat HW8.out.1 hbw) HM.out (Nat.lt_of_lt_of_le hbw HW8.out.2)) hlt
            have hmem := Rec.getD_mem (z := Spn.nov) hlt
            have hsm := HSM.out _ hmem
            have hcv := HCU.out _ hmem
            generalize lw.getD m Spn.nov = s at d0 d1 hsm hcv
            obtain ⟨s1, s2⟩ := s
            obtain ⟨h1, h2, h3, h4⟩ := hsm
            dsimp only at d0 d1 h1 h2 h3 h4 hcv
            have HCV := Lib.hid (cov_i vz w8.heap.size z s1 s2 true wr (Spn.holds_below HQ8.out HM.out) HM.out.size (by omega) (hcv h1 (by omega)))
            have hmi : (m : Int) < (lw.length : Int) := by omega
            clear hmem hcv hat
            go_wp2_with (fail)
            go_at_call 10
            refine HCV.out.mono ?_
            rintro e wv ⟨rfl, bv⟩
            have HMV := Lib.hid (HM.out.trans (bv.mono HM.out.size))
            clear bv HCV d0 d1
            go_wp2
            go_roundw
            case rel => exact ⟨m + 1, by omega, by go_num, HMV⟩
            case measure => simp [intOf]; omega
          · have B9 := Lib.hid (Base.then_below B8.out HM.out)
            have hsw := HM.out.size
            have HW9 := Lib.hid (Spn.holds_below (Spn.holds_below HW7.out HW8.out.1) (HM.out.mono HW8.out.2))
            have HQ9 := Lib.hid (Spn.holds_below HQ8.out HM.out)
            have HY9 := Lib.hid (Spn.holds_below HY8.out (HM.out.mono HZ8.out))
            have HN9 := Lib.hid (Nat.le_trans HW8.out.2 hsw)
            have HO9 := Lib.hid (Nat.le_trans HZ8.out hsw)
            have hmi : ¬ (m : Int) < (lw.length : Int) := by omega
            clear HAW HSM HCU HM B8 HY8 HZ8 HW8 HQ8 HW7
            have B10 := B9
            have HW10 := HW9
            have HQ10 := HQ9
            have HN10 := HN9
            have hsw10 := hsw
            clear B9 HW9 HQ9 HN9 hsw
            have HIZ := Lib.hid (set_i vz _ z true wr HQ10.out hsw10 (by omega) HUS.out)
            go_wp2_with (fail)
            go_at_call 14
            refine HIZ.out.mono ?_
            rintro e wb ⟨rfl, bb⟩
            have B11 := Lib.hid (Base.then_below B10.out bb)
            have HW11 := Lib.hid (Spn.holds_below HW10.out (bb.mono HN10.out))
            have HQ11 := Lib.hid (Spn.holds_below HQ10.out (bb.mono hsw10))
            have HN11 := Lib.hid (Nat.le_trans HN10.out bb.size)
            have hsw11 := Nat.le_trans hsw10 bb.size
            have HIS := Lib.hid (set_s vz _ z true wb HQ11.out hsw11 (by omega) HUS.out)
            clear bb HIZ B10 HW10 HQ10 HN10 hsw10
            go_wp2_with (fail)
            go_at_call 9
            refine HIS.out.mono ?_
            rintro e wc ⟨rfl, bc⟩
            have B12 := Lib.hid (Base.then_below B11.out bc)
            have HW12 := Lib.hid (Spn.holds_below HW11.out (bc.mono HN11.out))
            have HQ12 := Lib.hid (Spn.holds_below HQ11.out (bc.mono hsw11))
            have HN12 := Lib.hid (Nat.le_trans HN11.out bc.size)
            have hsw12 := Nat.le_trans hsw11 bc.size
            have HSZ1 := Lib.hid (Spn.impl_size vz _ z wc HQ12.out hsw12 (by omega))
            have HSZ2 := Lib.hid (fun W (hb : Below wc.heap.size wc W) => Spn.impl_size _ _ lw W (Spn.holds_below HW12.out (hb.mono HN12.out)) (Nat.le_trans HN12.out hb.size) (by omega))
            have hle := HFS.out
            unfold Spn.IntEnd at HSZ1 HSZ2
            generalize Spn.wsum z = n1 at HSZ1 hle
            generalize Spn.wsum lw = n2 at HSZ2 hle
            clear bc HIS B11 HW11 HQ11 HN11 hsw11
            go_wp2_with (fail)
            go_at_call 15
            refine HSZ1.out.mono ?_
            rintro e wd ⟨rfl, bd⟩
            have B13 := Lib.hid (Base.then_below B12.out bd)
            have HS2 := Lib.hid (HSZ2.out wd bd)
            clear bd HSZ1 HSZ2 B12 HW12 HQ12
            go_wp2_with (fail)
            go_at_call 15
            refine HS2.out.mono ?_
            rintro e we ⟨rfl, be⟩
            have B14 := Lib.hid (Base.then_below B13.out be)
            clear be HS2 B13
            go_wp2
            go_ret
            exact ⟨by simp [hle], B14.out⟩
end Go.Proofs.Ytegaakgmfphcaaa.fnIntervals
