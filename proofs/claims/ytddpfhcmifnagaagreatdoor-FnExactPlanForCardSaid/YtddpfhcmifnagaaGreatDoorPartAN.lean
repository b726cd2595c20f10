/-
  CONTRACTS AND PLAIN FACTS, several texts in one; each says in its own words what it proves.
-/
import Derived.Test.YtddpfhcmifnagaaGreatDoorPartAK
import Derived.IntWalk

/-
  CONTRACTS of the model's l22Bound and MayUseOnError; nothing that was there before is changed.
-/
namespace Go.Proofs.YtddpfhcmifnagaaGreatDoor.Srv
open Go Go.RowKit
set_option linter.unusedVariables false
set_option maxRecDepth 1000000

theorem ssec_a {w : World} {B : Nat} {u v : Value} {A G : List D} (h : Sv w B u v A G) (n : List UInt8) (W : World) (hb : Below w.heap.size w W) : Calls Tryz.prog 20 #[u, .string ⟨n.toArray⟩] W fun e w' => e = .returned (.tuple #[.int .i64 (Dir.sof n A).1, .bool (Dir.sof n A).2]) ∧ Below W.heap.size W w' :=
  Dir.spec_sec u B A n W (sv_below h hb).hu (sv_below h hb).hB h.la h.ma
theorem ssec_g {w : World} {B : Nat} {u v : Value} {A G : List D} (h : Sv w B u v A G) (n : List UInt8) (W : World) (hb : Below w.heap.size w W) : Calls Tryz.prog 20 #[v, .string ⟨n.toArray⟩] W fun e w' => e = .returned (.tuple #[.int .i64 (Dir.sof n G).1, .bool (Dir.sof n G).2]) ∧ Below W.heap.size W w' :=
  Dir.spec_sec v B G n W (sv_below h hb).hv (sv_below h hb).hB h.lg h.mg
theorem shas_a {w : World} {B : Nat} {u v : Value} {A G : List D} (h : Sv w B u v A G) (n : List UInt8) (W : World) (hb : Below w.heap.size w W) : Calls Tryz.prog 22 #[u, .string ⟨n.toArray⟩] W fun e w' => e = .returned (.bool (has n A)) ∧ Below W.heap.size W w' :=
  Dir.spec_has u B A n W (sv_below h hb).hu h.la
theorem shas_g {w : World} {B : Nat} {u v : Value} {A G : List D} (h : Sv w B u v A G) (n : List UInt8) (W : World) (hb : Below w.heap.size w W) : Calls Tryz.prog 22 #[v, .string ⟨n.toArray⟩] W fun e w' => e = .returned (.bool (has n G)) ∧ Below W.heap.size W w' :=
  Dir.spec_has v B G n W (sv_below h hb).hv h.lg
theorem rules_sv {l m : List Flds.Fld} {B B' : Nat} {p q : Value} {w : World} (h : Dir.Own w B p (Lif.rules l)) (h2 : Dir.Own w B' q (Lif.rules m)) (hl : Flds.total l ≤ 1048576) (hm : Flds.total m ≤ 1048576) : Sv w w.heap.size p q (Lif.rules l) (Lif.rules m) :=
  ⟨Dir.own_holds h, Dir.own_holds h2, Nat.le_refl _, Lif.rules_len hl, Lif.rules_len hm, Lif.rules_mem hl, Lif.rules_mem hm⟩

set_option maxHeartbeats 2000000 in
theorem spec_bound (u v : Value) (A G : List D) (B : Nat) (w : World) (h : Sv w B u v A G) : Calls Tryz.prog 21 #[v] w (BoolEnd (bound G) w) := by
  have HH0 := Lib.hid (shas_g h mrN)
  have HH1 := Lib.hid (shas_g h prN)
  have HH2 := Lib.hid (shas_g h Lif.smN)
  have HH3 := Lib.hid (shas_g h ncN)
  have HE : Hid (bound G = (has mrN G || (has prN G || (has Lif.smN G || has ncN G)))) := Lib.hid rfl
  generalize bound G = z at HE ⊢
  generalize has mrN G = b0 at HH0 HE
  generalize has prN G = b1 at HH1 HE
  generalize has Lif.smN G = b2 at HH2 HE
  generalize has ncN G = b3 at HH3 HE
  unfold mrN at HH0
  unfold prN at HH1
  unfold Lif.smN at HH2
  unfold ncN at HH3
  unfold BoolEnd
  have HB0 := Lib.hid (Below.refl w.heap.size w)
  clear h
  go_enter Tryz.func21, Tryz.ntmps21
  go_wp2_with (fail)
  go_at_call 22
  refine (HH0.out _ HB0.out).mono ?_
  rintro e w0 ⟨rfl, hb0⟩
  have HB1 := Lib.hid (Base.then_below HB0.out hb0)
  clear hb0
  cases hq : b0 with
  | true =>
    go_wp2
    go_ret
    exact ⟨ret_b (by rw [HE.out, hq]; simp), HB1.out⟩
  | false =>
    have HQ0 := Lib.hid hq
    clear hq
    go_wp2_with (fail)
    go_at_call 22
    refine (HH1.out _ HB1.out).mono ?_
    rintro e w1 ⟨rfl, hb1⟩
    have HB2 := Lib.hid (Base.then_below HB1.out hb1)
    clear hb1
    cases hq : b1 with
    | true =>
      go_wp2
      go_ret
      exact ⟨ret_b (by rw [HE.out, hq]; simp), HB2.out⟩
    | false =>
      have HQ1 := Lib.hid hq
      clear hq
      go_wp2_with (fail)
      go_at_call 22
      refine (HH2.out _ HB2.out).mono ?_
      rintro e w2 ⟨rfl, hb2⟩
      have HB3 := Lib.hid (Base.then_below HB2.out hb2)
      clear hb2
      cases hq : b2 with
      | true =>
        go_wp2
        go_ret
        exact ⟨ret_b (by rw [HE.out, hq]; simp), HB3.out⟩
      | false =>
        have HQ2 := Lib.hid hq
        clear hq
        go_wp2_with (fail)
        go_at_call 22
        refine (HH3.out _ HB3.out).mono ?_
        rintro e w3 ⟨rfl, hb3⟩
        have HB4 := Lib.hid (Base.then_below HB3.out hb3)
        clear hb3
        have HF : Hid (z = b3) := Lib.hid (by rw [HE.out, HQ0.out, HQ1.out, HQ2.out]; simp)
        go_wp2
        go_ret
        exact ⟨ret_b HF.out.symm, HB4.out⟩

set_option maxHeartbeats 4000000 in
theorem spec_may (me ho t : List UInt8) (u : Value) (l : List Flds.Fld) (c : Int) (v : Value) (m : List Flds.Fld) (b : List UInt8) (a f : Int) (B : Nat) (w : World) (h : Flds.Holds w B u l) (h2 : Flds.Holds w B v m) (hB : B ≤ w.heap.size) (hl : Flds.total l ≤ 1048576) (hm : Flds.total m ≤ 1048576) (hv : Dir.Errs w) :
    Calls Tryz.prog 8 #[.agg #[.string ⟨me.toArray⟩, .string ⟨ho.toArray⟩, .string ⟨t.toArray⟩, u], .agg #[.int .i64 c, v, .string ⟨b.toArray⟩], .int .i64 a, .int .i64 f] w (BoolEnd (may (Lif.rules l) (Lif.rules m) a f) w) := by
  have HB0 : Hid (Below w.heap.size w ((w.alloc (.cells #[.string ⟨me.toArray⟩, .string ⟨ho.toArray⟩, .string ⟨t.toArray⟩, u] 32)).alloc (.cells #[.int .i64 c, v, .string ⟨b.toArray⟩] 35))) := Lib.hid (((Below.refl _ _).alloc (Nat.le_refl _) _).alloc (by simp) _)
  have HK : Hid (∀ W, Below ((w.alloc (.cells #[.string ⟨me.toArray⟩, .string ⟨ho.toArray⟩, .string ⟨t.toArray⟩, u] 32)).alloc (.cells #[.int .i64 c, v, .string ⟨b.toArray⟩] 35)).heap.size ((w.alloc (.cells #[.string ⟨me.toArray⟩, .string ⟨ho.toArray⟩, .string ⟨t.toArray⟩, u] 32)).alloc (.cells #[.int .i64 c, v, .string ⟨b.toArray⟩] 35)) W → (W.cell? ⟨w.heap.size, 3, none⟩ = some u ∧ W.cell? ⟨w.heap.size + 1, 1, none⟩ = some v)) := Lib.hid (fun W hb => ⟨(Kept.one (Kept.below_in hb)).1 3 _ rfl, (Kept.two hb).1 1 _ rfl⟩)
  have HRL := Lib.hid (fun W (hb : Below w.heap.size w W) => Lif.spec_rules u B l W (Flds.holds_below h (hb.mono hB)) hl)
  have HRM := Lib.hid (fun W (hb : Below w.heap.size w W) => Lif.spec_rules v B m W (Flds.holds_below h2 (hb.mono hB)) hm)
  have HSS := Lib.hid (fun p q W B' B'' (x : Dir.Own W B' p (Lif.rules l)) (y : Dir.Own W B'' q (Lif.rules m)) => rules_sv x y hl hm)
  have HE : Hid (may (Lif.rules l) (Lif.rules m) a f = (!bound (Lif.rules m) && (!(has ncN (Lif.rules l) || ((Dir.sof Lif.maN (Lif.rules l)).2 && decide ((Dir.sof Lif.maN (Lif.rules l)).1 < a))) && (decide (a < f) || ((Dir.sof seN (Lif.rules m)).2 && decide (RowKit.wrap64 (a - f) ≤ (Dir.sof seN (Lif.rules m)).1)))))) := Lib.hid (by
    unfold may old over; rw [IntWalk.i64_left])
  unfold Lif.RulesEnd at HRL HRM
  generalize may (Lif.rules l) (Lif.rules m) a f = z at HE ⊢
  generalize Lif.rules l = A at HRL HSS HE
  generalize Lif.rules m = G at HRM HSS HE
  unfold BoolEnd
  clear h h2 hl hm hv
  go_enter Tryz.func8, Tryz.ntmps8
  obtain ⟨q3, q1⟩ := HK.out _ (Below.refl _ _)
  go_wp2_with (fail)
  go_at_call 19
  refine (HRL.out _ HB0.out).mono ?_
  rintro e w1 ⟨p, rfl, oA, hb1⟩
  obtain ⟨aA, cA, rfl, _⟩ := Rec.shape_at oA
  have HR1 := Lib.hid hb1
  have HB1 := Lib.hid (Base.then_below HB0.out hb1)
  have HOA := Lib.hid oA
  clear q3 q1 oA hb1
  obtain ⟨q3, q1⟩ := HK.out _ HR1.out
  go_wp2_with (fail)
  go_at_call 19
  refine (HRM.out _ HB1.out).mono ?_
  rintro e w2 ⟨q, rfl, oG, hb2⟩
  obtain ⟨aG, cG, rfl, _⟩ := Rec.shape_at oG
  have HB2 := Lib.hid (Base.then_below HB1.out hb2)
  have HS1 := Lib.hid (HSS.out _ _ _ _ _ (Dir.row_below HOA.out hb2) oG)
  have HX0 := Lib.hid (fun W (hb : Below w2.heap.size w2 W) => ssec_g HS1.out seN W hb)
  have HX1 := Lib.hid (fun W (hb : Below w2.heap.size w2 W) => ssec_a HS1.out Lif.maN W hb)
  have HX2 := Lib.hid (fun W (hb : Below w2.heap.size w2 W) => spec_bound _ _ A G _ W (sv_below HS1.out hb))
  have HX3 := Lib.hid (fun W (hb : Below w2.heap.size w2 W) => shas_a HS1.out ncN W hb)
  unfold BoolEnd at HX2
  generalize bound G = b0 at HX2 HE
  generalize has ncN A = b1 at HX3 HE
  generalize Dir.sof Lif.maN A = sa at HX1 HE
  generalize Dir.sof seN G = se at HX0 HE
  obtain ⟨ma, km⟩ := sa
  obtain ⟨ms, ks⟩ := se
  simp only at HX0 HX1 HE
  unfold seN at HX0
  unfold Lif.maN at HX1
  unfold ncN at HX3
  have HR2 := Lib.hid (Below.refl w2.heap.size w2)
  clear q3 q1 oG hb2
  go_wp2_with (fail)
  go_at_call 20
  refine (HX0.out _ HR2.out).mono ?_
  rintro e w3 ⟨rfl, hb3⟩
  have HR3 := Lib.hid (Base.then_below HR2.out hb3)
  have HB3 := Lib.hid (Base.then_below HB2.out hb3)
  clear hb3
  go_wp2_with (fail)
  go_at_call 20
  refine (HX1.out _ HR3.out).mono ?_
  rintro e w4 ⟨rfl, hb4⟩
  have HR4 := Lib.hid (Base.then_below HR3.out hb4)
  have HB4 := Lib.hid (Base.then_below HB3.out hb4)
  clear hb4
  go_wp2_with (fail)
  go_at_call 21
  refine (HX2.out _ HR4.out).mono ?_
  rintro e w5 ⟨rfl, hb5⟩
  have HR5 := Lib.hid (Base.then_below HR4.out hb5)
  have HB5 := Lib.hid (Base.then_below HB4.out hb5)
  clear hb5
  cases b0 with
  | true =>
    go_wp2
    go_ret
    exact ⟨ret_b (by rw [HE.out]; rfl), HB5.out⟩
  | false =>
    go_wp2_with (fail)
    go_at_call 22
    refine (HX3.out _ HR5.out).mono ?_
    rintro e w6 ⟨rfl, hb6⟩
    have HB6 := Lib.hid (Base.then_below HB5.out hb6)
    clear hb6
    cases b1 with
    | true =>
      go_wp2
      go_ret
      exact ⟨ret_b (by rw [HE.out]; rfl), HB6.out⟩
    | false =>
      have hk : (km = false) ∨ (km = true ∧ a ≤ ma) ∨ (km = true ∧ ¬ a ≤ ma) := by cases km <;> simp <;> omega
      have hj : (a < f) ∨ (¬ a < f ∧ ks = false) ∨ (¬ a < f ∧ ks = true ∧ RowKit.wrap64 (a - f) ≤ ms) ∨ (¬ a < f ∧ ks = true ∧ ¬ RowKit.wrap64 (a - f) ≤ ms) := by cases ks <;> simp <;> omega
      rcases hk with rfl | ⟨rfl, h1⟩ | ⟨rfl, h1⟩ <;> rcases hj with h2 | ⟨h2, rfl⟩ | ⟨h2, rfl, h3⟩ | ⟨h2, rfl, h3⟩
      all_goals (
        go_wp2
        go_ret
        exact ⟨ret_b (by rw [HE.out]; first | (simp; done) | (simp [h2]; done) | (simp [h1, h2]; done) | (simp [h2, h3]; done) | (simp [h1, h2, h3]; done) | (simp [h1]; done) | (simp [h2]; omega) | (simp [h1, h2]; omega) | (simp [h1, h2, h3]; omega) | (simp [h2, h3]; omega)), HB6.out⟩)
end Go.Proofs.YtddpfhcmifnagaaGreatDoor.Srv
