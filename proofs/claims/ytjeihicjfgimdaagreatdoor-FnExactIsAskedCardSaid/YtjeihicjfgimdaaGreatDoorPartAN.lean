/-
  CONTRACTS AND PLAIN FACTS, several texts in one; each says in its own words what it proves.
-/
import Derived.Test.YtjeihicjfgimdaaGreatDoorPartG
import Derived.Test.YtjeihicjfgimdaaGreatDoorPartAM
import Derived.Test.YtjeihicjfgimdaaGreatDoorPartAA
import Derived.RegionTactic
import Derived.Deep.RegionWith
set_option linter.unusedSimpArgs false
set_option linter.unusedVariables false

/-
  CONTRACTS of the questions about a Given, on both sides: l33Date and dateOf, boundOf, IsAsked, IsBound (written by gen_giva.py). Nothing that was there before is changed.
-/
namespace Go.Proofs.YtjeihicjfgimdaaGreatDoor.Giv
open Go Go.RowKit
set_option linter.unusedVariables false
set_option maxRecDepth 1000000
set_option maxRecDepth 1000000

abbrev D := Dir.T
theorem sof_has (n : List UInt8) (L : List D) : (Dir.sof n L).2 = Srv.has n L := by
  unfold Dir.sof Srv.has
  by_cases h : Dir.at1 n L < 0
  · rw [if_pos h]; simp; omega
  · rw [if_neg h]; simp; omega
noncomputable def ldate (l : List Flds.Fld) : Int := if (Age.din Age.dateN l).2 = true then (Age.din Age.dateN l).1 else -1
noncomputable def asked (l lx : List Flds.Fld) : Bool := !(Age.din Age.dateN lx).2 || ((decide (Age.agef lx = 0) || !Srv.has Srv.ncN (Lif.rules l)) && (decide (Age.agef lx ≤ (Dir.sof Lif.maN (Lif.rules l)).1) || !(Dir.sof Lif.maN (Lif.rules l)).2))
def bo (A : List D) : Int × Bool := if Srv.has Lif.smN A = true then Dir.sof Lif.smN A else if (Srv.has Srv.mrN A || Srv.has Srv.prN A) = true then Dir.sof Lif.maN A else (0, false)
noncomputable def bnd (lx : List Flds.Fld) : Bool := !(Age.din Age.dateN lx).2 || (decide (Age.agef lx = 0) || (!Srv.has Srv.ncN (Lif.rules lx) && (decide (Age.agef lx < (bo (Lif.rules lx)).1) || !(bo (Lif.rules lx)).2)))

set_option maxHeartbeats 2000000 in
theorem spec_l33 (c : Int) (v : Value) (B : Nat) (l : List Flds.Fld) (b : List UInt8) (w : World) (h : Flds.Holds w B v l) (hB : B ≤ w.heap.size) (hl : Flds.total l ≤ 1048576) :
    Calls Tryz.prog 30 #[.agg #[.int .i64 c, v, .string ⟨b.toArray⟩]] w (Age.NumEnd (ldate l) w) := by
  have HB0 : Hid (Below w.heap.size w (w.alloc (.cells #[.int .i64 c, v, .string ⟨b.toArray⟩] 36))) := Lib.hid ((Below.refl _ _).alloc (Nat.le_refl _) _)
  have hg := Flds.got_len Age.dateN l
  have HG := Lib.hid (fun W (hb : Below w.heap.size w W) => Flds.spec_lget v B l Age.dateN W (Flds.holds_below h (hb.mono hB)) (by omega))
  have HP := Lib.hid (fun W => Dt.spec_pdate (Flds.got Age.dateN l) W (by omega))
  have hdd : Dt.pdate (Flds.got Age.dateN l) = Age.din Age.dateN l := rfl
  rw [hdd] at HP
  have HE : Hid (ldate l = if (Age.din Age.dateN l).2 = true then (Age.din Age.dateN l).1 else -1) := Lib.hid rfl
  have db := Age.din_bd Age.dateN l
  unfold Flds.GotEnd at HG
  unfold Dt.PdEnd at HP
  unfold Age.NumEnd
  clear h hl hg hdd
  generalize ldate l = z at HE ⊢
  generalize Age.din Age.dateN l = q at HP HE db
  generalize Flds.got Age.dateN l = t at HG HP
  obtain ⟨d, ok⟩ := q
  simp only at HE HP db
  obtain ⟨d1, d2⟩ := db
  unfold Age.dateN at HG
  cases ok
  all_goals
    simp only [Bool.false_eq_true, if_false, if_true] at HE
    go_enter Tryz.func30, Tryz.ntmps30
    go_wp2_with (fail)
    go_at_call 61
    refine (HG.out _ HB0.out).mono ?_
    rintro e w2 ⟨rfl, hb2⟩
    have HB2 := Lib.hid (Base.then_below HB0.out hb2)
    clear hb2
    go_wp2_with (fail)
    go_at_call 65
    refine (HP.out _).mono ?_
    rintro e w3 ⟨rfl, hb3⟩
    have HB3 := Lib.hid (Base.then_below HB2.out hb3)
    clear hb3
    go_wp2
    go_ret
    exact ⟨Age.ret_n HE.out.symm, HB3.out⟩

set_option maxHeartbeats 2000000 in
theorem impl_dof (n : Int) (m ho t : List UInt8) (u : Value) (l : List Flds.Fld) (c : Int) (x : Value) (lx : List Flds.Fld) (b : List UInt8) (a : Int) (p : Value) (B : Nat) (w : World) (hu : Flds.Holds w B u l) (hx : Flds.Holds w B x lx) (hB : B ≤ w.heap.size) (hl : Flds.total l ≤ 1048576) (hlx : Flds.total lx ≤ 1048576) (ht : Age.Tabs w) :
    Calls Tryz.prog 35 #[.agg #[.int .i64 n, .string ⟨m.toArray⟩, .string ⟨ho.toArray⟩, .string ⟨t.toArray⟩, u, .int .i64 c, x, .string ⟨b.toArray⟩, .int .i64 a, p]] w (Age.PairEnd (Age.din Age.dateN lx) w) := by
  have HB0 : Hid (Below w.heap.size w (w.alloc (.cells #[.int .i64 n, .string ⟨m.toArray⟩, .string ⟨ho.toArray⟩, .string ⟨t.toArray⟩, u, .int .i64 c, x, .string ⟨b.toArray⟩, .int .i64 a, p] 39))) := Lib.hid ((Below.refl _ _).alloc (Nat.le_refl _) _)
  have HD := Lib.hid (Age.impl_din x B lx Age.dateN _ (Flds.holds_below hx (HB0.out.mono hB)) (Nat.le_trans hB HB0.out.size) hlx (Age.tabs_below ht HB0.out))
  unfold Age.PairEnd at HD ⊢
  clear hu hx hl hlx ht
  generalize Age.din Age.dateN lx = q at HD ⊢
  unfold Age.dateN at HD
  obtain ⟨d, ok⟩ := q
  simp only at HD ⊢
  go_enter Tryz.func35, Tryz.ntmps35
  go_wp2_with (fail)
  go_at_call 68
  refine HD.out.mono ?_
  rintro e w1 ⟨rfl, hb1⟩
  have HB1 := Lib.hid (Base.then_below HB0.out hb1)
  clear hb1
  go_wp2
  go_ret2
  exact ⟨rfl, HB1.out⟩

set_option maxHeartbeats 2000000 in
theorem impl_bof (u : Value) (A : List D) (B : Nat) (w : World) (h : Srv.Sv w B u u A A) :
    Calls Tryz.prog 41 #[u] w fun e w' => e = .returned (.tuple #[.int .i64 (bo A).1, .bool (bo A).2]) ∧ Below w.heap.size w w' := by
  have HH1 := Lib.hid (fun W (hb : Below w.heap.size w W) => Srv.has_a h Lif.smN W hb)
  have HH2 := Lib.hid (fun W (hb : Below w.heap.size w W) => Srv.has_a h Srv.mrN W hb)
  have HH3 := Lib.hid (fun W (hb : Below w.heap.size w W) => Srv.has_a h Srv.prN W hb)
  have HS1 := Lib.hid (fun W (hb : Below w.heap.size w W) => Srv.sec_a h Lif.smN W hb)
  have HS2 := Lib.hid (fun W (hb : Below w.heap.size w W) => Srv.sec_a h Lif.maN W hb)
  have HE : Hid (bo A = if Srv.has Lif.smN A = true then Dir.sof Lif.smN A else if (Srv.has Srv.mrN A || Srv.has Srv.prN A) = true then Dir.sof Lif.maN A else (0, false)) := Lib.hid rfl
  clear h
  generalize bo A = z at HE ⊢
  generalize Srv.has Lif.smN A = b1 at HH1 HE
  generalize Srv.has Srv.mrN A = b2 at HH2 HE
  generalize Srv.has Srv.prN A = b3 at HH3 HE
  generalize Dir.sof Lif.smN A = s1 at HS1 HE
  generalize Dir.sof Lif.maN A = s2 at HS2 HE
  obtain ⟨n1, k1⟩ := s1
  obtain ⟨n2, k2⟩ := s2
  obtain ⟨nz, kz⟩ := z
  simp only at HS1 HS2 ⊢
  unfold Lif.smN at HH1 HS1
  unfold Srv.mrN at HH2
  unfold Srv.prN at HH3
  unfold Lif.maN at HS2
  have HR0 := Lib.hid (Below.refl w.heap.size w)
  go_enter Tryz.func41, Tryz.ntmps41

  go_wp2_with (fail)
  go_at_call 39
  refine (HH1.out _ HR0.out).mono ?_
  rintro e w1 ⟨rfl, hb1⟩
  have HR1 := Lib.hid (Base.then_below HR0.out hb1)
  clear hb1
  cases b1 with
  | true =>
    go_wp2_with (fail)
    go_at_call 38
    refine (HS1.out _ HR1.out).mono ?_
    rintro e w2 ⟨rfl, hb2⟩
    have HR2 := Lib.hid (Base.then_below HR1.out hb2)
    clear hb2
    go_wp2
    go_ret2
    have hE := HE.out
    simp at hE
    obtain ⟨rfl, rfl⟩ := hE
    exact ⟨rfl, HR2.out⟩
  | false =>
    go_wp2_with (fail)
    go_at_call 39
    refine (HH2.out _ HR1.out).mono ?_
    rintro e w2 ⟨rfl, hb2⟩
    have HR2 := Lib.hid (Base.then_below HR1.out hb2)
    clear hb2
    cases b2 with
    | true =>
      go_wp2_with (fail)
      go_at_call 38
      refine (HS2.out _ HR2.out).mono ?_
      rintro e w3 ⟨rfl, hb3⟩
      have HR3 := Lib.hid (Base.then_below HR2.out hb3)
      clear hb3
      go_wp2
      go_ret2
      have hE := HE.out
      simp at hE
      obtain ⟨rfl, rfl⟩ := hE
      exact ⟨rfl, HR3.out⟩
    | false =>
      go_wp2_with (fail)
      go_at_call 39
      refine (HH3.out _ HR2.out).mono ?_
      rintro e w3 ⟨rfl, hb3⟩
      have HR3 := Lib.hid (Base.then_below HR2.out hb3)
      clear hb3
      cases b3 with
      | true =>
        go_wp2_with (fail)
        go_at_call 38
        refine (HS2.out _ HR3.out).mono ?_
        rintro e w4 ⟨rfl, hb4⟩
        have HR4 := Lib.hid (Base.then_below HR3.out hb4)
        clear hb4
        go_wp2
        go_ret2
        have hE := HE.out
        simp at hE
        obtain ⟨rfl, rfl⟩ := hE
        exact ⟨rfl, HR4.out⟩
      | false =>
        go_wp2
        go_ret2
        have hE := HE.out
        simp at hE
        obtain ⟨rfl, rfl⟩ := hE
        exact ⟨rfl, HR3.out⟩

set_option maxHeartbeats 8000000 in
theorem impl_asked (n : Int) (m ho t : List UInt8) (u : Value) (l : List Flds.Fld) (c : Int) (x : Value) (lx : List Flds.Fld) (b : List UInt8) (a : Int) (p : Value) (B : Nat) (w : World) (hu : Flds.Holds w B u l) (hx : Flds.Holds w B x lx) (hB : B ≤ w.heap.size) (hl : Flds.total l ≤ 1048576) (hlx : Flds.total lx ≤ 1048576) (ht : Age.Tabs w) (her : Par.Errs w) (hv : Dir.Errs w) :
    Calls Tryz.prog 10 #[.agg #[.int .i64 n, .string ⟨m.toArray⟩, .string ⟨ho.toArray⟩, .string ⟨t.toArray⟩, u, .int .i64 c, x, .string ⟨b.toArray⟩, .int .i64 a, p]] w (Srv.BoolEnd (asked l lx) w) := by
  have HB0 : Hid (Below w.heap.size w (w.alloc (.cells #[.int .i64 n, .string ⟨m.toArray⟩, .string ⟨ho.toArray⟩, .string ⟨t.toArray⟩, u, .int .i64 c, x, .string ⟨b.toArray⟩, .int .i64 a, p] 39))) := Lib.hid ((Below.refl _ _).alloc (Nat.le_refl _) _)
  have HK : Hid (∀ W, Below (w.alloc (.cells #[.int .i64 n, .string ⟨m.toArray⟩, .string ⟨ho.toArray⟩, .string ⟨t.toArray⟩, u, .int .i64 c, x, .string ⟨b.toArray⟩, .int .i64 a, p] 39)).heap.size (w.alloc (.cells #[.int .i64 n, .string ⟨m.toArray⟩, .string ⟨ho.toArray⟩, .string ⟨t.toArray⟩, u, .int .i64 c, x, .string ⟨b.toArray⟩, .int .i64 a, p] 39)) W → (W.cell? ⟨w.heap.size, 4, none⟩ = some (u) ∧ W.cell? ⟨w.heap.size, 5, none⟩ = some (.int .i64 c) ∧ W.cell? ⟨w.heap.size, 6, none⟩ = some (x) ∧ W.cell? ⟨w.heap.size, 7, none⟩ = some (.string ⟨b.toArray⟩)) ∧ Below w.heap.size w W) := Lib.hid (fun W hb => by
    have h1 := (Kept.Box.new (w := w) (T := 39) (a := #[.int .i64 n, .string ⟨m.toArray⟩, .string ⟨ho.toArray⟩, .string ⟨t.toArray⟩, u, .int .i64 c, x, .string ⟨b.toArray⟩, .int .i64 a, p])).below hb
    exact ⟨⟨h1.cell 4 _ rfl, h1.cell 5 _ rfl, h1.cell 6 _ rfl, h1.cell 7 _ rfl⟩, HB0.out.trans (hb.mono HB0.out.size)⟩)
  have HD := Lib.hid (impl_dof n m ho t u l c x lx b a p B _ (Flds.holds_below hu (HB0.out.mono hB)) (Flds.holds_below hx (HB0.out.mono hB)) (Nat.le_trans hB HB0.out.size) hl hlx (Age.tabs_below ht HB0.out))
  have HA := Lib.hid (fun W (hb : Below w.heap.size w W) => Age.impl_agef c x B lx b W (Flds.holds_below hx (hb.mono hB)) (Nat.le_trans hB hb.size) hlx (Age.tabs_below ht hb).2.2 (Par.errs_below her hb))
  have HL := Lib.hid (fun W (hb : Below w.heap.size w W) => Lif.impl_rules u B l W (Flds.holds_below hu (hb.mono hB)) (Nat.le_trans hB hb.size) hl (Dir.errs_below hv hb))
  have HSS := Lib.hid (fun q W B' (y : Dir.Own W B' q (Lif.rules l)) => Srv.serv_sv y y hl hl)
  have HE : Hid (asked l lx = (!(Age.din Age.dateN lx).2 || ((decide (Age.agef lx = 0) || !Srv.has Srv.ncN (Lif.rules l)) && (decide (Age.agef lx ≤ (Dir.sof Lif.maN (Lif.rules l)).1) || !(Dir.sof Lif.maN (Lif.rules l)).2)))) := Lib.hid rfl
  generalize asked l lx = z at HE ⊢
  have ab := Age.agef_bd lx
  have sb := Lif.sof_bd Lif.maN (Lif.rules l)
  unfold Age.PairEnd at HD
  unfold Age.NumEnd at HA
  unfold Lif.RulesEnd at HL
  unfold Srv.BoolEnd
  clear hu hx hl hlx ht her hv
  generalize Lif.rules l = A at HL HSS HE sb
  generalize Age.agef lx = ag at HA HE ab
  generalize Age.din Age.dateN lx = q at HD HE
  obtain ⟨d, ok⟩ := q
  simp only at HD HE
  obtain ⟨a1, a2⟩ := ab
  go_enter Tryz.func10, Tryz.ntmps10
  go_wp2_with (fail)
  go_at_call 35
  refine HD.out.mono ?_
  rintro e w1 ⟨rfl, hb1⟩
  have HS := Lib.hid hb1
  have HB1 := Lib.hid (Base.then_below HB0.out hb1)
  clear hb1
  cases ok with
  | false =>
    go_wp2
    go_ret
    exact ⟨Srv.ret_b (by rw [HE.out]; rfl), HB1.out⟩
  | true =>
    have HS := Lib.hid (Rec.below_drew HS.out)
    obtain ⟨⟨q4, q5, q6, q7⟩, hbw⟩ := HK.out _ HS.out
    have HBW := Lib.hid hbw
    have hdz : w1.drew.heap.size = w1.heap.size := rfl
    clear hbw
    go_wp2
    go_region_with (first
      | (go_at_call 36; with_reducible refine (HA.out _ HBW.out).mono ?_; rintro e wa ⟨rfl, bq⟩; clear q4 q5 q6 q7; (try (have HO := Lib.hid (Dir.row_below HO.out bq))); have HS := Lib.hid (HS.out.trans (bq.mono HS.out.size)); obtain ⟨⟨q4, q5, q6, q7⟩, hbw⟩ := HK.out _ HS.out; have HBW := Lib.hid hbw; clear hbw bq)
      | (go_at_call 37; with_reducible refine (HL.out _ HBW.out).mono ?_; rintro e wl ⟨vA, rfl, oA, bq⟩; obtain ⟨aA, cA, rfl, _⟩ := Rec.shape_at oA; have hzz := HBW.out.size; clear q4 q5 q6 q7; have HO := Lib.hid (Dir.own_mono (B' := w.heap.size) oA hzz); clear hzz; have HS := Lib.hid (HS.out.trans (bq.mono HS.out.size)); obtain ⟨⟨q4, q5, q6, q7⟩, hbw⟩ := HK.out _ HS.out; have HBW := Lib.hid hbw; clear hbw bq oA))
    all_goals (
      have HSV := Lib.hid (HSS.out _ _ _ HO.out)
      have HX1 := Lib.hid (fun W' (hb : Below _ _ W') => Srv.sec_a HSV.out Lif.maN W' hb)
      have HX2 := Lib.hid (fun W' (hb : Below _ _ W') => Srv.has_a HSV.out Srv.ncN W' hb)
      generalize Dir.sof Lif.maN A = sa at HX1 HE sb
      generalize Srv.has Srv.ncN A = b1 at HX2 HE
      obtain ⟨ma, km⟩ := sa
      simp only at HX1 HE sb
      unfold Lif.maN at HX1
      unfold Srv.ncN at HX2
      obtain ⟨s1, s2⟩ := sb
      go_wp2_with (fail)
      go_at_call 38
      refine (HX1.out _ (Below.refl _ _)).mono ?_
      rintro e w3 ⟨rfl, hb3⟩
      have HR3 := Lib.hid hb3
      have HB3 := Lib.hid (Base.then_below HBW.out hb3)
      clear hb3 q4 q5 q6 q7
      rcases (show ag = 0 ∨ ag ≠ 0 by omega) with hz | hz
      · have h0 : (0 : Int) ≤ ma := s1
        subst hz
        go_wp2
        go_ret
        exact ⟨Srv.ret_b (by rw [HE.out]; simp [h0]), HB3.out⟩
      · go_wp2_with (fail)
        go_at_call 39
        refine (HX2.out _ HR3.out).mono ?_
        rintro e w4 ⟨rfl, hb4⟩
        have HB4 := Lib.hid (Base.then_below HB3.out hb4)
        clear hb4
        have hk : (ag ≤ ma) ∨ (¬ ag ≤ ma ∧ km = true) ∨ (¬ ag ≤ ma ∧ km = false) := by cases km <;> simp <;> omega
        cases b1 <;> rcases hk with h1 | ⟨h1, rfl⟩ | ⟨h1, rfl⟩
        all_goals (
          go_wp2
          go_ret
          exact ⟨Srv.ret_b (by rw [HE.out]; first | (simp [hz, h1]; done) | (simp [hz, Int.not_lt.2 h1]; done) | (simp [Int.not_lt.2 h1]; done) | (simp [hz]; omega) | (simp [h1]; done) | (simp; omega)), HB4.out⟩))

set_option maxHeartbeats 8000000 in
theorem spec_asked (n : Int) (m ho t : List UInt8) (u : Value) (l : List Flds.Fld) (c : Int) (x : Value) (lx : List Flds.Fld) (b : List UInt8) (a : Int) (p : Value) (B : Nat) (w : World) (hu : Flds.Holds w B u l) (hx : Flds.Holds w B x lx) (hB : B ≤ w.heap.size) (hl : Flds.total l ≤ 1048576) (hlx : Flds.total lx ≤ 1048576) (ht : Age.Tabs w) (her : Par.Errs w) (hv : Dir.Errs w) :
    Calls Tryz.prog 8 #[.agg #[.int .i64 n, .string ⟨m.toArray⟩, .string ⟨ho.toArray⟩, .string ⟨t.toArray⟩, u, .int .i64 c, x, .string ⟨b.toArray⟩, .int .i64 a, p]] w (Srv.BoolEnd (asked l lx) w) := by
  have HB0 : Hid (Below w.heap.size w (w.alloc (.cells #[.int .i64 n, .string ⟨m.toArray⟩, .string ⟨ho.toArray⟩, .string ⟨t.toArray⟩, u, .int .i64 c, x, .string ⟨b.toArray⟩, .int .i64 a, p] 39))) := Lib.hid ((Below.refl _ _).alloc (Nat.le_refl _) _)
  have HK : Hid (∀ W, Below (w.alloc (.cells #[.int .i64 n, .string ⟨m.toArray⟩, .string ⟨ho.toArray⟩, .string ⟨t.toArray⟩, u, .int .i64 c, x, .string ⟨b.toArray⟩, .int .i64 a, p] 39)).heap.size (w.alloc (.cells #[.int .i64 n, .string ⟨m.toArray⟩, .string ⟨ho.toArray⟩, .string ⟨t.toArray⟩, u, .int .i64 c, x, .string ⟨b.toArray⟩, .int .i64 a, p] 39)) W → (W.cell? ⟨w.heap.size, 4, none⟩ = some (u) ∧ W.cell? ⟨w.heap.size, 5, none⟩ = some (.int .i64 c) ∧ W.cell? ⟨w.heap.size, 6, none⟩ = some (x) ∧ W.cell? ⟨w.heap.size, 7, none⟩ = some (.string ⟨b.toArray⟩)) ∧ Below w.heap.size w W) := Lib.hid (fun W hb => by
    have h1 := (Kept.Box.new (w := w) (T := 39) (a := #[.int .i64 n, .string ⟨m.toArray⟩, .string ⟨ho.toArray⟩, .string ⟨t.toArray⟩, u, .int .i64 c, x, .string ⟨b.toArray⟩, .int .i64 a, p])).below hb
    exact ⟨⟨h1.cell 4 _ rfl, h1.cell 5 _ rfl, h1.cell 6 _ rfl, h1.cell 7 _ rfl⟩, HB0.out.trans (hb.mono HB0.out.size)⟩)
  have HA := Lib.hid (fun W (hb : Below w.heap.size w W) => Age.spec_agef c x B lx b W (Flds.holds_below hx (hb.mono hB)) (Nat.le_trans hB hb.size) hlx)
  have HD := Lib.hid (fun W (hb : Below w.heap.size w W) => spec_l33 c x B lx b W (Flds.holds_below hx (hb.mono hB)) (Nat.le_trans hB hb.size) hlx)
  have HL := Lib.hid (fun W (hb : Below w.heap.size w W) => Lif.spec_rules u B l W (Flds.holds_below hu (hb.mono hB)) hl)
  have HSS := Lib.hid (fun q W B' (y : Dir.Own W B' q (Lif.rules l)) => Srv.rules_sv y y hl hl)
  have HE : Hid (asked l lx = (!(Age.din Age.dateN lx).2 || ((decide (Age.agef lx = 0) || !Srv.has Srv.ncN (Lif.rules l)) && (decide (Age.agef lx ≤ (Dir.sof Lif.maN (Lif.rules l)).1) || !(Dir.sof Lif.maN (Lif.rules l)).2)))) := Lib.hid rfl
  generalize asked l lx = z at HE ⊢
  have HLD : Hid (ldate lx = if (Age.din Age.dateN lx).2 = true then (Age.din Age.dateN lx).1 else -1) := Lib.hid rfl
  have db := Age.din_bd Age.dateN lx
  have ab := Age.agef_bd lx
  unfold Age.NumEnd at HA HD
  unfold Lif.RulesEnd at HL
  unfold Srv.BoolEnd
  clear hu hx hl hlx ht her hv
  generalize Lif.rules l = A at HL HSS HE
  generalize Age.agef lx = ag at HA HE ab
  generalize Age.din Age.dateN lx = q at HE HLD db
  obtain ⟨d, ok⟩ := q
  simp only at HE HLD db
  obtain ⟨a1, a2⟩ := ab
  have HLZ : Hid (ldate lx < 0 ↔ ok = false) := Lib.hid (by have := HLD.out; cases ok <;> simp at this ⊢ <;> omega)
  clear HLD db
  generalize ldate lx = ld at HD HLZ
  obtain ⟨⟨q4, q5, q6, q7⟩, _⟩ := HK.out _ (Below.refl _ _)
  go_enter Tryz.func8, Tryz.ntmps8
  go_wp2_with (fail)
  go_at_call 27
  refine (HL.out _ HB0.out).mono ?_
  rintro e w1 ⟨vA, rfl, oA, hb1⟩
  obtain ⟨aA, cA, rfl, _⟩ := Rec.shape_at oA
  have HS1 := Lib.hid hb1
  have HO := Lib.hid oA
  have HB1 := Lib.hid (Base.then_below HB0.out hb1)
  clear q4 q5 q6 q7 oA hb1
  obtain ⟨⟨q4, q5, q6, q7⟩, _⟩ := HK.out _ HS1.out
  go_wp2_with (fail)
  go_at_call 28
  refine (HA.out _ HB1.out).mono ?_
  rintro e w2 ⟨rfl, hb2⟩
  have HO := Lib.hid (Dir.row_below HO.out hb2)
  have HSV := Lib.hid (HSS.out _ _ _ HO.out)
  have HS2 := Lib.hid (Base.then_below HS1.out hb2)
  have HB2 := Lib.hid (Base.then_below HB1.out hb2)
  clear q4 q5 q6 q7 hb2
  obtain ⟨⟨q4, q5, q6, q7⟩, _⟩ := HK.out _ HS2.out
  have HX1 := Lib.hid (fun W' (hb : Below w2.heap.size w2 W') => Srv.ssec_a HSV.out Lif.maN W' hb)
  have HX2 := Lib.hid (fun W' (hb : Below w2.heap.size w2 W') => Srv.shas_a HSV.out Srv.ncN W' hb)
  generalize Dir.sof Lif.maN A = sa at HX1 HE
  generalize Srv.has Srv.ncN A = b1 at HX2 HE
  obtain ⟨ma, km⟩ := sa
  simp only at HX1 HE
  unfold Lif.maN at HX1
  unfold Srv.ncN at HX2
  have HR0 := Lib.hid (Below.refl w2.heap.size w2)
  go_wp2_with (fail)
  go_at_call 29
  refine (HX1.out _ HR0.out).mono ?_
  rintro e y1 ⟨rfl, hb1⟩
  have HR1 := Lib.hid (Base.then_below HR0.out hb1)
  clear hb1
  have HBk := Lib.hid (HB2.out.trans (HR1.out.mono HB2.out.size))
  obtain ⟨⟨q4, q5, q6, q7⟩, _⟩ := HK.out _ (Base.then_below HS2.out HR1.out)
  go_wp2_with (fail)
  go_at_call 30
  refine (HD.out _ HBk.out).mono ?_
  rintro e v3 ⟨rfl, hb9⟩
  have HR9 := Lib.hid (Base.then_below HR1.out hb9)
  have HB9 := Lib.hid (Base.then_below HBk.out hb9)
  clear hb9 q4 q5 q6 q7
  cases ok with
  | false =>
    have hld : ld < 0 := HLZ.out.2 rfl
    go_wp2
    go_ret
    exact ⟨Srv.ret_b (by rw [HE.out]; rfl), HB9.out⟩
  | true =>
    have hld : ¬ ld < 0 := fun h => by have := HLZ.out.1 h; cases this
    go_wp2_with (fail)
    go_at_call 31
    refine (HX2.out _ HR9.out).mono ?_
    rintro e v4 ⟨rfl, hb4⟩
    have HB10 := Lib.hid (Base.then_below HB9.out hb4)
    clear hb4
    rcases (show ag = 0 ∨ ag ≠ 0 by omega) with hz | hz <;> cases b1 <;> cases km <;> rcases (show ag ≤ ma ∨ ¬ ag ≤ ma by omega) with h1 | h1
    all_goals (
      go_wp2
      go_ret
      exact ⟨Srv.ret_b (by rw [HE.out]; first | (simp [hz, h1, Int.not_lt.2 hld]; done) | (simp [hz, Int.not_lt.2 h1, Int.not_lt.2 hld]; done) | (simp [hz]; done) | (simp [h1]; done) | (simp [hz, h1]; done) | (simp [hz, Int.not_lt.2 h1]; done) | (simp [Int.not_lt.2 h1]; done) | (simp [hz]; omega) | (simp [h1]; omega) | (simp; omega)), HB10.out⟩)

end Go.Proofs.YtjeihicjfgimdaaGreatDoor.Giv
