/-
  CONTRACTS AND PLAIN FACTS, several texts in one; each says in its own words what it proves.
-/
import Derived.Test.YtddpfhcmifnagaaGreatDoorPartAK
import Derived.RegionTactic
import Derived.Deep.RegionWith
import Derived.IntWalk

/-
  CONTRACTS of the program's servingOf and MayUseOnError; nothing that was there before is changed.
-/
namespace Go.Proofs.YtddpfhcmifnagaaGreatDoor.Srv
open Go Go.RowKit
set_option linter.unusedVariables false
set_option maxRecDepth 1000000

def ServEnd (l m : List Flds.Fld) (a f : Int) (w : World) (e : Ending) (w' : World) : Prop := ∃ p q, e = .returned (sv p q a f) ∧ Dir.Own w' w.heap.size p (Lif.rules l) ∧ Dir.Own w' w.heap.size q (Lif.rules m) ∧ Below w.heap.size w w'
theorem serv_sv {l m : List Flds.Fld} {B : Nat} {p q : Value} {w : World} (h : Dir.Own w B p (Lif.rules l)) (h2 : Dir.Own w B q (Lif.rules m)) (hl : Flds.total l ≤ 1048576) (hm : Flds.total m ≤ 1048576) : Sv w w.heap.size p q (Lif.rules l) (Lif.rules m) :=
  ⟨Dir.own_holds h, Dir.own_holds h2, Nat.le_refl _, Lif.rules_len hl, Lif.rules_len hm, Lif.rules_mem hl, Lif.rules_mem hm⟩

set_option maxHeartbeats 4000000 in
theorem impl_serv (me ho t : List UInt8) (u : Value) (l : List Flds.Fld) (c : Int) (v : Value) (m : List Flds.Fld) (b : List UInt8) (a f : Int) (B : Nat) (w : World) (h : Flds.Holds w B u l) (h2 : Flds.Holds w B v m) (hB : B ≤ w.heap.size) (hl : Flds.total l ≤ 1048576) (hm : Flds.total m ≤ 1048576) (hv : Dir.Errs w) :
    Calls Tryz.prog 24 #[.agg #[.string ⟨me.toArray⟩, .string ⟨ho.toArray⟩, .string ⟨t.toArray⟩, u], .agg #[.int .i64 c, v, .string ⟨b.toArray⟩], .int .i64 a, .int .i64 f] w (ServEnd l m a f w) := by
  have HB0 : Hid (Below w.heap.size w (((w.alloc (.cells #[.string ⟨me.toArray⟩, .string ⟨ho.toArray⟩, .string ⟨t.toArray⟩, u] 32)).alloc (.cells #[.int .i64 c, v, .string ⟨b.toArray⟩] 35)).alloc (.cells #[.slice none 0 0, .slice none 0 0, .int .i64 0, .int .i64 0] 52))) := Lib.hid ((((Below.refl _ _).alloc (Nat.le_refl _) _).alloc (by simp) _).alloc (by simp; omega) _)
  have HK : Hid (∀ W, Below (((w.alloc (.cells #[.string ⟨me.toArray⟩, .string ⟨ho.toArray⟩, .string ⟨t.toArray⟩, u] 32)).alloc (.cells #[.int .i64 c, v, .string ⟨b.toArray⟩] 35)).alloc (.cells #[.slice none 0 0, .slice none 0 0, .int .i64 0, .int .i64 0] 52)).heap.size (((w.alloc (.cells #[.string ⟨me.toArray⟩, .string ⟨ho.toArray⟩, .string ⟨t.toArray⟩, u] 32)).alloc (.cells #[.int .i64 c, v, .string ⟨b.toArray⟩] 35)).alloc (.cells #[.slice none 0 0, .slice none 0 0, .int .i64 0, .int .i64 0] 52)) W → (W.cell? ⟨w.heap.size, 3, none⟩ = some u ∧ W.cell? ⟨w.heap.size + 1, 1, none⟩ = some v) ∧ (W.cell? ⟨w.heap.size + 1 + 1, 0, none⟩ = some (.slice none 0 0) ∧ W.cell? ⟨w.heap.size + 1 + 1, 1, none⟩ = some (.slice none 0 0) ∧ W.cell? ⟨w.heap.size + 1 + 1, 2, none⟩ = some (.int .i64 0) ∧ W.cell? ⟨w.heap.size + 1 + 1, 3, none⟩ = some (.int .i64 0)) ∧ (W.frozen? ⟨w.heap.size + 1 + 1, 0, none⟩ = false ∧ W.frozen? ⟨w.heap.size + 1 + 1, 1, none⟩ = false ∧ W.frozen? ⟨w.heap.size + 1 + 1, 2, none⟩ = false ∧ W.frozen? ⟨w.heap.size + 1 + 1, 3, none⟩ = false) ∧ Below w.heap.size w W) := Lib.hid (fun W hb => by
    have h3 := Kept.three hb
    have h2 := Kept.two (Kept.below_in hb)
    have h1 := Kept.one (Kept.below_in (Kept.below_in hb))
    exact ⟨⟨h1.1 3 _ rfl, h2.1 1 _ rfl⟩, ⟨h3.1 0 _ rfl, h3.1 1 _ rfl, h3.1 2 _ rfl, h3.1 3 _ rfl⟩, ⟨h3.2 0, h3.2 1, h3.2 2, h3.2 3⟩, HB0.out.trans (hb.mono HB0.out.size)⟩)
  have HSZ : Hid ((((w.alloc (.cells #[.string ⟨me.toArray⟩, .string ⟨ho.toArray⟩, .string ⟨t.toArray⟩, u] 32)).alloc (.cells #[.int .i64 c, v, .string ⟨b.toArray⟩] 35)).alloc (.cells #[.slice none 0 0, .slice none 0 0, .int .i64 0, .int .i64 0] 52)).heap.size = w.heap.size + 1 + 1 + 1) := Lib.hid (by simp)
  have HRL := Lib.hid (fun W (hb : Below w.heap.size w W) => Lif.impl_rules u B l W (Flds.holds_below h (hb.mono hB)) (Nat.le_trans hB hb.size) hl (Dir.errs_below hv hb))
  have HRM := Lib.hid (fun W (hb : Below w.heap.size w W) => Lif.impl_rules v B m W (Flds.holds_below h2 (hb.mono hB)) (Nat.le_trans hB hb.size) hm (Dir.errs_below hv hb))
  unfold Lif.RulesEnd at HRL HRM
  unfold ServEnd sv
  generalize Lif.rules l = A at HRL ⊢
  generalize Lif.rules m = G at HRM ⊢
  clear h h2 hl hm hv
  go_enter Tryz.func24, Tryz.ntmps24
  have HS : Hid (Below (((w.alloc (.cells #[.string ⟨me.toArray⟩, .string ⟨ho.toArray⟩, .string ⟨t.toArray⟩, u] 32)).alloc (.cells #[.int .i64 c, v, .string ⟨b.toArray⟩] 35)).alloc (.cells #[.slice none 0 0, .slice none 0 0, .int .i64 0, .int .i64 0] 52)).heap.size (((w.alloc (.cells #[.string ⟨me.toArray⟩, .string ⟨ho.toArray⟩, .string ⟨t.toArray⟩, u] 32)).alloc (.cells #[.int .i64 c, v, .string ⟨b.toArray⟩] 35)).alloc (.cells #[.slice none 0 0, .slice none 0 0, .int .i64 0, .int .i64 0] 52)) (((w.alloc (.cells #[.string ⟨me.toArray⟩, .string ⟨ho.toArray⟩, .string ⟨t.toArray⟩, u] 32)).alloc (.cells #[.int .i64 c, v, .string ⟨b.toArray⟩] 35)).alloc (.cells #[.slice none 0 0, .slice none 0 0, .int .i64 0, .int .i64 0] 52)).drew) := Lib.hid (Rec.below_drew (Below.refl _ _))
  obtain ⟨⟨q3, q1⟩, ⟨r0, r1, r2, r3⟩, ⟨f0, f1, f2, f3⟩, hbw⟩ := HK.out _ HS.out
  have HBW := Lib.hid hbw
  have hdz : (((w.alloc (.cells #[.string ⟨me.toArray⟩, .string ⟨ho.toArray⟩, .string ⟨t.toArray⟩, u] 32)).alloc (.cells #[.int .i64 c, v, .string ⟨b.toArray⟩] 35)).alloc (.cells #[.slice none 0 0, .slice none 0 0, .int .i64 0, .int .i64 0] 52)).drew.heap.size = w.heap.size + 1 + 1 + 1 := by show (((w.alloc (.cells #[.string ⟨me.toArray⟩, .string ⟨ho.toArray⟩, .string ⟨t.toArray⟩, u] 32)).alloc (.cells #[.int .i64 c, v, .string ⟨b.toArray⟩] 35)).alloc (.cells #[.slice none 0 0, .slice none 0 0, .int .i64 0, .int .i64 0] 52)).heap.size = _; simp
  clear hbw
  go_wp2
  go_region_with (first
    | (go_at_call 51; with_reducible refine (HRL.out _ HBW.out).mono ?_; rintro e wl ⟨vA, rfl, oA, bq⟩; obtain ⟨aA, cA, rfl, _⟩ := Rec.shape_at oA; have hsl := bq.size; have hso := HS.out.size; rw [HSZ.out] at hso; clear q3 q1 r0 r1 r2 r3 f0 f1 f2 f3; have HOA := Lib.hid (Dir.own_mono (B' := w.heap.size + 1 + 1 + 1) oA (by omega)); (try (have HOG := Lib.hid (Dir.row_below HOG.out bq))); have HS := Lib.hid (HS.out.trans (bq.mono HS.out.size)); obtain ⟨⟨q3, q1⟩, ⟨r0, r1, r2, r3⟩, ⟨f0, f1, f2, f3⟩, hbw⟩ := HK.out _ HS.out; have HBW := Lib.hid hbw; clear hbw oA bq hso)
    | (go_at_call 51; with_reducible refine (HRM.out _ HBW.out).mono ?_; rintro e wm ⟨vG, rfl, oG, bq⟩; obtain ⟨aG, cG, rfl, _⟩ := Rec.shape_at oG; have hsm := bq.size; have hso := HS.out.size; rw [HSZ.out] at hso; clear q3 q1 r0 r1 r2 r3 f0 f1 f2 f3; have HOG := Lib.hid (Dir.own_mono (B' := w.heap.size + 1 + 1 + 1) oG (by omega)); (try (have HOA := Lib.hid (Dir.row_below HOA.out bq))); have HS := Lib.hid (HS.out.trans (bq.mono HS.out.size)); obtain ⟨⟨q3, q1⟩, ⟨r0, r1, r2, r3⟩, ⟨f0, f1, f2, f3⟩, hbw⟩ := HK.out _ HS.out; have HBW := Lib.hid hbw; clear hbw oG bq hso))
  all_goals (
    go_wp2
    have hxA : ∀ k, Value.ownBlock (.slice aA A.length cA) = some k → w.heap.size + 1 + 1 < k := fun k e => by have h9 := (HOA.out.lt k e).1; omega
    have hxG : ∀ k, Value.ownBlock (.slice aG G.length cG) = some k → w.heap.size + 1 + 1 < k := fun k e => by have h9 := (HOG.out.lt k e).1; omega
    have eA : Value.ownBlock (.slice aA A.length cA) ≠ some (w.heap.size + 1 + 1) := fun e => by have := hxA _ e; omega
    have eG : Value.ownBlock (.slice aG G.length cG) ≠ some (w.heap.size + 1 + 1) := fun e => by have := hxG _ e; omega
    have HBS := Lib.hid ((((HBW.out.setCell (p := ⟨w.heap.size + 1 + 1, 0, none⟩) (by show w.heap.size ≤ w.heap.size + 1 + 1; omega) (.slice aA A.length cA)).setCell (p := ⟨w.heap.size + 1 + 1, 1, none⟩) (by show w.heap.size ≤ w.heap.size + 1 + 1; omega) (.slice aG G.length cG)).setCell (p := ⟨w.heap.size + 1 + 1, 2, none⟩) (by show w.heap.size ≤ w.heap.size + 1 + 1; omega) (.int .i64 a)).setCell (p := ⟨w.heap.size + 1 + 1, 3, none⟩) (by show w.heap.size ≤ w.heap.size + 1 + 1; omega) (.int .i64 f))
    have HWA := Lib.hid (Rec.own_mono (B' := w.heap.size) (ownsRow_setCell_other (a := ⟨w.heap.size + 1 + 1, 3, none⟩) (ownsRow_setCell_other (a := ⟨w.heap.size + 1 + 1, 2, none⟩) (ownsRow_setCell_other (a := ⟨w.heap.size + 1 + 1, 1, none⟩) (ownsRow_setCell_other (a := ⟨w.heap.size + 1 + 1, 0, none⟩) HOA.out eA (.slice aA A.length cA)) eA (.slice aG G.length cG)) eA (.int .i64 a)) eA (.int .i64 f)) (by omega))
    have HWG := Lib.hid (Rec.own_mono (B' := w.heap.size) (ownsRow_setCell_other (a := ⟨w.heap.size + 1 + 1, 3, none⟩) (ownsRow_setCell_other (a := ⟨w.heap.size + 1 + 1, 2, none⟩) (ownsRow_setCell_other (a := ⟨w.heap.size + 1 + 1, 1, none⟩) (ownsRow_setCell_other (a := ⟨w.heap.size + 1 + 1, 0, none⟩) HOG.out eG (.slice aA A.length cA)) eG (.slice aG G.length cG)) eG (.int .i64 a)) eG (.int .i64 f)) (by omega))
    refine bodyPost_ret (v := .agg #[(.slice aA A.length cA), (.slice aG G.length cG), .int .i64 a, .int .i64 f]) (by simp [results, Tryz.results24, go_sem, r0, r1, r2, r3]) rfl ⟨_, _, rfl, HWA.out, HWG.out, HBS.out⟩)

theorem below_serv {w W : World} {x y : List Value} {T T' : TypeId} (hb : Below ((w.alloc (.cells x.toArray T)).alloc (.cells y.toArray T')).heap.size ((w.alloc (.cells x.toArray T)).alloc (.cells y.toArray T')) W) : Below w.heap.size w W := Kept.below_in (Kept.below_in hb)

set_option maxHeartbeats 4000000 in
theorem impl_may (me ho t : List UInt8) (u : Value) (l : List Flds.Fld) (c : Int) (v : Value) (m : List Flds.Fld) (b : List UInt8) (a f : Int) (B : Nat) (w : World) (h : Flds.Holds w B u l) (h2 : Flds.Holds w B v m) (hB : B ≤ w.heap.size) (hl : Flds.total l ≤ 1048576) (hm : Flds.total m ≤ 1048576) (hv : Dir.Errs w) :
    Calls Tryz.prog 11 #[.agg #[.string ⟨me.toArray⟩, .string ⟨ho.toArray⟩, .string ⟨t.toArray⟩, u], .agg #[.int .i64 c, v, .string ⟨b.toArray⟩], .int .i64 a, .int .i64 f] w (BoolEnd (may (Lif.rules l) (Lif.rules m) a f) w) := by
  have HB0 : Hid (Below w.heap.size w ((w.alloc (.cells #[.string ⟨me.toArray⟩, .string ⟨ho.toArray⟩, .string ⟨t.toArray⟩, u] 32)).alloc (.cells #[.int .i64 c, v, .string ⟨b.toArray⟩] 35))) := Lib.hid (((Below.refl _ _).alloc (Nat.le_refl _) _).alloc (by simp) _)
  have hbr := HB0.out
  have HSV := Lib.hid (impl_serv me ho t u l c v m b a f B _ (Flds.holds_below h (hbr.mono hB)) (Flds.holds_below h2 (hbr.mono hB)) (Nat.le_trans hB hbr.size) hl hm (Dir.errs_below hv hbr))
  have HSS := Lib.hid (fun p q W B' (x : Dir.Own W B' p (Lif.rules l)) (y : Dir.Own W B' q (Lif.rules m)) => serv_sv x y hl hm)
  unfold ServEnd at HSV
  have HE : Hid (may (Lif.rules l) (Lif.rules m) a f = (!bound (Lif.rules m) && (!old (Lif.rules l) a && (decide (a < f) || over seN (Lif.rules m) a f)))) := Lib.hid rfl
  generalize may (Lif.rules l) (Lif.rules m) a f = z at HE ⊢
  generalize Lif.rules l = A at HSV HSS HE
  generalize Lif.rules m = G at HSV HSS HE
  unfold BoolEnd
  clear h h2 hl hm hv hbr
  go_enter Tryz.func11, Tryz.ntmps11
  go_wp2_with (fail)
  go_at_call 24
  refine HSV.out.mono ?_
  rintro e w1 ⟨p, q, rfl, oA, oG, hb1⟩
  obtain ⟨aA, cA, hpe, _⟩ := Rec.shape_at oA
  obtain ⟨aG, cG, hqe, _⟩ := Rec.shape_at oG
  subst hpe hqe
  have HS1 := Lib.hid (HSS.out _ _ _ _ oA oG)
  have HB1 := Lib.hid (HB0.out.trans (hb1.mono HB0.out.size))
  have HBA : Hid (Below w1.heap.size w1 (w1.alloc (.cells #[(.slice aA A.length cA), (.slice aG G.length cG), .int .i64 a, .int .i64 f] 52))) := Lib.hid ((Below.refl _ _).alloc (Nat.le_refl _) _)
  have HK := Lib.hid (fun W => kept4 (w := w1) (w1 := W) (T := 52) (a := (.slice aA A.length cA)) (b := (.slice aG G.length cG)) (c := .int .i64 a) (d := .int .i64 f))
  have HX0 := Lib.hid (fun W (hb : Below w1.heap.size w1 W) => impl_bound (.slice aA A.length cA) (.slice aG G.length cG) A G a f _ W (sv_below HS1.out hb))
  have HX1 := Lib.hid (fun W (hb : Below w1.heap.size w1 W) => impl_old (.slice aA A.length cA) (.slice aG G.length cG) A G a f _ W (sv_below HS1.out hb))
  have HX2 := Lib.hid (fun W => impl_fresh (.slice aA A.length cA) (.slice aG G.length cG) a f W)
  have HX3 := Lib.hid (fun W (hb : Below w1.heap.size w1 W) => impl_over (.slice aA A.length cA) (.slice aG G.length cG) (.slice aG G.length cG) A G G seN a f _ W (sv_below HS1.out hb) (Or.inr ⟨rfl, rfl⟩))
  unfold BoolEnd sv at HX0 HX1 HX2 HX3
  unfold sv
  generalize bound G = b0 at HX0 HE
  generalize old A a = b1 at HX1 HE
  generalize over seN G a f = b3 at HX3 HE
  generalize decide (a < f) = b2 at HX2 HE
  unfold seN at HX3
  clear oA oG hb1 HSV HSS
  go_wp2_with (fail)
  go_at_call 25
  refine (HX0.out _ HBA.out).mono ?_
  rintro e w2 ⟨rfl, hb2⟩
  have HR2 := Lib.hid hb2
  obtain ⟨⟨x0, x1, x2, x3⟩, hbw⟩ := HK.out _ hb2
  have HW2 := Lib.hid hbw
  have HB2 := Lib.hid (Base.then_below HB1.out hbw)
  clear hb2 hbw
  cases b0 with
  | true =>
    go_wp2
    go_ret
    exact ⟨ret_b (by rw [HE.out]; rfl), HB2.out⟩
  | false =>
    go_wp2_with (fail)
    go_at_call 26
    refine (HX1.out _ HW2.out).mono ?_
    rintro e w3 ⟨rfl, hb3⟩
    have HR3 := Lib.hid (Base.then_below HR2.out hb3)
    clear hb3 x0 x1 x2 x3
    obtain ⟨⟨x0, x1, x2, x3⟩, hbw⟩ := HK.out _ HR3.out
    have HW3 := Lib.hid hbw
    have HB3 := Lib.hid (Base.then_below HB1.out hbw)
    clear hbw
    cases b1 with
    | true =>
      go_wp2
      go_ret
      exact ⟨ret_b (by rw [HE.out]; rfl), HB3.out⟩
    | false =>
      go_wp2_with (fail)
      go_at_call 27
      refine (HX2.out _).mono ?_
      rintro e w4 ⟨rfl, hb4⟩
      have HR4 := Lib.hid (Base.then_below HR3.out hb4)
      clear hb4 x0 x1 x2 x3
      obtain ⟨⟨x0, x1, x2, x3⟩, hbw⟩ := HK.out _ HR4.out
      have HW4 := Lib.hid hbw
      have HB4 := Lib.hid (Base.then_below HB1.out hbw)
      clear hbw
      cases b2 with
      | true =>
        go_wp2
        go_ret
        exact ⟨ret_b (by rw [HE.out]; rfl), HB4.out⟩
      | false =>
        go_wp2_with (fail)
        go_at_call 28
        refine (HX3.out _ HW4.out).mono ?_
        rintro e w5 ⟨rfl, hb5⟩
        have HB5 := Lib.hid (Base.then_below HB4.out hb5)
        clear hb5
        have HF : Hid (z = b3) := Lib.hid (by rw [HE.out]; simp)
        go_wp2
        go_ret
        exact ⟨ret_b HF.out.symm, HB5.out⟩
end Go.Proofs.YtddpfhcmifnagaaGreatDoor.Srv

/-
  CONTRACTS of the program's isRefused, mustBeFresh, isTaken, isLent and plan; nothing that was there before is changed.
-/
namespace Go.Proofs.YtddpfhcmifnagaaGreatDoor.Srv
open Go Go.RowKit
set_option linter.unusedVariables false
set_option maxRecDepth 1000000

theorem sof_has (n : List UInt8) (L : List D) : (Dir.sof n L).2 = has n L := by
  unfold Dir.sof has; split
  · simp; omega
  · simp; omega
/-- One of both sides wants a check of this answer. -/
def refused (A G : List D) (a l : Int) : Bool := old A a || (((Dir.sof mfN A).2 && decide (RowKit.wrap64 (l - a) < (Dir.sof mfN A).1)) || has ncN G)
def must (A G : List D) : Bool := bound G || has mfN A
/-- The first such rule has no value. -/
def bare (n : List UInt8) (L : List D) : Bool := decide (0 ≤ Dir.at1 n L) && !(L.getD (Dir.at1 n L).toNat Dir.nov).2.2
def taken (A : List D) (a l : Int) : Bool := bare msN A || over msN A a l
def step (A G : List D) (a l : Int) : Int := if refused A G a l = true then 3 else if a < l then 1 else if must A G = true then 3 else if taken A a l = true then 1 else if over swN G a l = true then 2 else 3
def plan (A G : List D) (a l : Int) : Int := if step A G a l = 3 ∧ has ocN A = true then 4 else step A G a l
def NumEnd (z : Int) (w : World) (e : Ending) (w' : World) : Prop := e = .returned (.int .i64 z) ∧ Below w.heap.size w w'
theorem ret_n {a b : Int} (h : a = b) : Ending.returned (.int .i64 a) = .returned (.int .i64 b) := by rw [h]

set_option maxHeartbeats 2000000 in
theorem impl_lent (u v : Value) (A G : List D) (a l : Int) (B : Nat) (w : World) (h : Sv w B u v A G) : Calls Tryz.prog 57 #[sv u v a l] w (BoolEnd (over swN G a l) w) := by
  have HB0 : Hid (Below w.heap.size w (w.alloc (.cells #[u, v, .int .i64 a, .int .i64 l] 52))) := Lib.hid ((Below.refl _ _).alloc (Nat.le_refl _) _)
  have HK := Lib.hid (fun w1 => kept4 (w := w) (w1 := w1) (T := 52) (a := u) (b := v) (c := .int .i64 a) (d := .int .i64 l))
  have HX := Lib.hid (fun W (hb : Below w.heap.size w W) => impl_over u v v A G G swN a l _ W (sv_below h hb) (Or.inr ⟨rfl, rfl⟩))
  unfold BoolEnd sv at HX
  unfold BoolEnd sv
  generalize over swN G a l = z at HX ⊢
  unfold swN at HX
  clear h
  go_enter Tryz.func57, Tryz.ntmps57
  go_wp2_with (fail)
  go_at_call 28
  refine (HX.out _ HB0.out).mono ?_
  rintro e w1 ⟨rfl, hb1⟩
  have HB1 := Lib.hid (Base.then_below HB0.out hb1)
  clear hb1
  go_wp2
  go_ret
  exact ⟨rfl, HB1.out⟩

set_option maxHeartbeats 2000000 in
theorem impl_must (u v : Value) (A G : List D) (a l : Int) (B : Nat) (w : World) (h : Sv w B u v A G) : Calls Tryz.prog 55 #[sv u v a l] w (BoolEnd (must A G) w) := by
  have HB0 : Hid (Below w.heap.size w (w.alloc (.cells #[u, v, .int .i64 a, .int .i64 l] 52))) := Lib.hid ((Below.refl _ _).alloc (Nat.le_refl _) _)
  have HK := Lib.hid (fun w1 => kept4 (w := w) (w1 := w1) (T := 52) (a := u) (b := v) (c := .int .i64 a) (d := .int .i64 l))
  have HX := Lib.hid (fun W (hb : Below w.heap.size w W) => impl_bound u v A G a l _ W (sv_below h hb))
  have HH := Lib.hid (has_a h mfN)
  have HE : Hid (must A G = (bound G || has mfN A)) := Lib.hid rfl
  unfold BoolEnd sv at HX
  unfold BoolEnd sv
  generalize must A G = z at HE ⊢
  generalize bound G = b0 at HX HE
  generalize has mfN A = b1 at HH HE
  unfold mfN at HH
  clear h
  go_enter Tryz.func55, Tryz.ntmps55
  go_wp2_with (fail)
  go_at_call 25
  refine (HX.out _ HB0.out).mono ?_
  rintro e w1 ⟨rfl, hb1⟩
  obtain ⟨⟨x0, x1, x2, x3⟩, hbw⟩ := HK.out _ hb1
  have HB1 := Lib.hid hbw
  clear hb1 hbw
  cases b0 with
  | true =>
    go_wp2
    go_ret
    exact ⟨ret_b (by rw [HE.out]; rfl), HB1.out⟩
  | false =>
    go_wp2_with (fail)
    go_at_call 33
    refine (HH.out _ HB1.out).mono ?_
    rintro e w2 ⟨rfl, hb2⟩
    have HB2 := Lib.hid (Base.then_below HB1.out hb2)
    clear hb2
    have HF : Hid (z = b1) := Lib.hid (by rw [HE.out]; simp)
    go_wp2
    go_ret
    exact ⟨ret_b HF.out.symm, HB2.out⟩

set_option maxHeartbeats 2000000 in
theorem impl_refused (u v : Value) (A G : List D) (a l : Int) (B : Nat) (w : World) (h : Sv w B u v A G) : Calls Tryz.prog 54 #[sv u v a l] w (BoolEnd (refused A G a l) w) := by
  have HB0 : Hid (Below w.heap.size w (w.alloc (.cells #[u, v, .int .i64 a, .int .i64 l] 52))) := Lib.hid ((Below.refl _ _).alloc (Nat.le_refl _) _)
  have HK := Lib.hid (fun w1 => kept4 (w := w) (w1 := w1) (T := 52) (a := u) (b := v) (c := .int .i64 a) (d := .int .i64 l))
  have HS := Lib.hid (sec_a h mfN)
  have HX := Lib.hid (fun W (hb : Below w.heap.size w W) => impl_old u v A G a l _ W (sv_below h hb))
  have HH := Lib.hid (has_g h ncN)
  have HE : Hid (refused A G a l = (old A a || (((Dir.sof mfN A).2 && decide (RowKit.wrap64 (l - a) < (Dir.sof mfN A).1)) || has ncN G))) := Lib.hid rfl
  unfold BoolEnd sv at HX
  unfold BoolEnd sv
  generalize refused A G a l = z at HE ⊢
  generalize Dir.sof mfN A = s at HS HE
  generalize old A a = b0 at HX HE
  generalize has ncN G = b1 at HH HE
  obtain ⟨s, k⟩ := s
  simp only at HS HE
  unfold mfN at HS
  unfold ncN at HH
  clear h
  go_enter Tryz.func54, Tryz.ntmps54
  go_wp2_with (fail)
  go_at_call 52
  refine (HS.out _ HB0.out).mono ?_
  rintro e w1 ⟨rfl, hb1⟩
  have HR1 := Lib.hid hb1
  obtain ⟨⟨x0, x1, x2, x3⟩, hbw⟩ := HK.out _ hb1
  have HB1 := Lib.hid hbw
  clear hb1 hbw
  go_wp2_with (fail)
  go_at_call 26
  refine (HX.out _ HB1.out).mono ?_
  rintro e w2 ⟨rfl, hb2⟩
  clear x0 x1 x2 x3
  obtain ⟨⟨x0, x1, x2, x3⟩, hbw⟩ := HK.out _ (Base.then_below HR1.out hb2)
  have HB2 := Lib.hid hbw
  clear hb2 hbw
  cases b0 with
  | true =>
    go_wp2
    go_ret
    exact ⟨ret_b (by rw [HE.out]; rfl), HB2.out⟩
  | false =>
    have hk : (k = true ∧ RowKit.wrap64 (l - a) < s) ∨ (k = false) ∨ (k = true ∧ ¬ RowKit.wrap64 (l - a) < s) := by cases k <;> simp <;> omega
    rcases hk with ⟨rfl, h1⟩ | hk
    · go_wp2
      go_ret
      exact ⟨ret_b (by rw [HE.out]; simp [h1]), HB2.out⟩
    · have HF : Hid (z = b1) := Lib.hid (by rw [HE.out]; rcases hk with rfl | ⟨rfl, h1⟩; · simp
                                            · simp [h1])
      rcases hk with rfl | ⟨rfl, h1⟩
      all_goals (
        go_wp2_with (fail)
        go_at_call 33
        refine (HH.out _ HB2.out).mono ?_
        rintro e w3 ⟨rfl, hb3⟩
        have HB3 := Lib.hid (Base.then_below HB2.out hb3)
        clear hb3
        go_wp2
        go_ret
        first | exact ⟨ret_b HF.out.symm, HB3.out⟩ | (refine ⟨ret_b ?_, HB3.out⟩; rw [HF.out, decide_eq_false (show ¬ RowKit.wrap64 (l - a) < s by omega)]; rfl))

theorem at1_cell {w : World} {B : Nat} {u : Value} {A : List D} (h : Dir.Holds w B u A) (n : List UInt8) (h0 : 0 ≤ Dir.at1 n A) : ∃ j b off cap, Dir.at1 n A = (j : Nat) ∧ j < A.length ∧ u = .slice (some ⟨b, off, none⟩) A.length cap ∧ b < B ∧ Dir.At w b off A := by
  have hr : Dir.at1 n A < A.length := by unfold Dir.at1 at h0 ⊢; split <;> omega
  obtain ⟨a, cap, rfl, ha⟩ := Dir.holds_shape h
  obtain ⟨b, off, rfl, hb, _, hc⟩ := ha (by omega)
  exact ⟨(Dir.at1 n A).toNat, b, off, cap, by omega, by omega, rfl, hb, hc⟩
set_option maxHeartbeats 4000000 in
theorem impl_taken (u v : Value) (A G : List D) (a l : Int) (B : Nat) (w : World) (h : Sv w B u v A G) : Calls Tryz.prog 56 #[sv u v a l] w (BoolEnd (taken A a l) w) := by
  have HB0 : Hid (Below w.heap.size w (w.alloc (.cells #[u, v, .int .i64 a, .int .i64 l] 52))) := Lib.hid ((Below.refl _ _).alloc (Nat.le_refl _) _)
  have HK := Lib.hid (fun w1 => kept4 (w := w) (w1 := w1) (T := 52) (a := u) (b := v) (c := .int .i64 a) (d := .int .i64 l))
  have HX := Lib.hid (fun W (hb : Below w.heap.size w W) => impl_over u v u A G A msN a l _ W (sv_below h hb) (Or.inl ⟨rfl, rfl⟩))
  have HFD := Lib.hid (fun W (hb : Below w.heap.size w W) => Dir.impl_find u B A msN W (sv_below h hb).hu h.la)
  have HE : Hid (taken A a l = (bare msN A || over msN A a l)) := Lib.hid rfl
  have HBR : Hid (bare msN A = (decide (0 ≤ Dir.at1 msN A) && !(A.getD (Dir.at1 msN A).toNat Dir.nov).2.2)) := Lib.hid rfl
  have HAC := Lib.hid (at1_cell h.hu msN)
  have hbn := h.hB
  unfold Dir.FindEnd at HFD
  unfold BoolEnd sv at HX
  unfold BoolEnd sv
  clear h
  by_cases h0 : 0 ≤ Dir.at1 msN A
  · obtain ⟨j, b, off, cap, hj, hjl, rfl, hbb, hc⟩ := HAC.out h0
    rw [hj] at HFD HBR
    have c2 := (Dir.at_cells hc hjl).2.2
    rw [Int.toNat_natCast] at HBR
    generalize A.getD j Dir.nov = d at c2 HBR
    obtain ⟨d0, d1, d2⟩ := d
    simp only at c2 HBR
    have HC2 := Lib.hid c2
    have HBL : Hid (b < w.heap.size) := Lib.hid (Nat.lt_of_lt_of_le hbb hbn)
    have HJ : Hid ((j : Int) < (A.length : Int)) := Lib.hid (by omega)
    generalize taken A a l = z at HE ⊢
    generalize over msN A a l = b1 at HX HE
    generalize bare msN A = b0 at HBR HE
    unfold msN at HX HFD
    clear h0 hj hjl hbb hc c2 hbn HAC
    go_enter Tryz.func56, Tryz.ntmps56
    go_wp2_with (fail)
    go_at_call 58
    refine (HFD.out _ HB0.out).mono ?_
    rintro e w1 ⟨rfl, hb1⟩
    have HR1 := Lib.hid hb1
    obtain ⟨⟨x0, x1, x2, x3⟩, hbw⟩ := HK.out _ hb1
    have HB1 := Lib.hid hbw
    have c2 := (hbw.cell (p := ⟨b, off + j * 3 + 2, none⟩) HBL.out).trans HC2.out
    have hj0 : (0 : Int) ≤ (j : Int) := by omega
    have hj1 := HJ.out
    clear hb1 hbw
    cases d2 with
    | false =>
      have HF : Hid (z = true) := Lib.hid (by rw [HE.out, HBR.out]; simp)
      go_wp2
      go_ret
      exact ⟨ret_b HF.out.symm, HB1.out⟩
    | true =>
      have HF : Hid (z = b1) := Lib.hid (by rw [HE.out, HBR.out]; simp)
      go_wp2_with (fail)
      go_at_call 28
      refine (HX.out _ HB1.out).mono ?_
      rintro e w2 ⟨rfl, hb2⟩
      have HB2 := Lib.hid (Base.then_below HB1.out hb2)
      clear hb2
      go_wp2
      go_ret
      exact ⟨ret_b HF.out.symm, HB2.out⟩
  · have hm1 := (Dir.at1_range msN A).1
    have hj : Dir.at1 msN A = -1 := by omega
    have HF : Hid (taken A a l = over msN A a l) := Lib.hid (by rw [HE.out, HBR.out]; simp [h0])
    rw [hj] at HFD
    clear HE HBR HAC h0 hm1 hj hbn
    generalize taken A a l = z at HF ⊢
    generalize over msN A a l = b1 at HX HF
    unfold msN at HX HFD
    go_enter Tryz.func56, Tryz.ntmps56
    go_wp2_with (fail)
    go_at_call 58
    refine (HFD.out _ HB0.out).mono ?_
    rintro e w1 ⟨rfl, hb1⟩
    obtain ⟨⟨x0, x1, x2, x3⟩, hbw⟩ := HK.out _ hb1
    have HB1 := Lib.hid hbw
    clear hb1 hbw
    go_wp2_with (fail)
    go_at_call 28
    refine (HX.out _ HB1.out).mono ?_
    rintro e w2 ⟨rfl, hb2⟩
    have HB2 := Lib.hid (Base.then_below HB1.out hb2)
    clear hb2
    go_wp2
    go_ret
    exact ⟨ret_b HF.out.symm, HB2.out⟩
end Go.Proofs.YtddpfhcmifnagaaGreatDoor.Srv
