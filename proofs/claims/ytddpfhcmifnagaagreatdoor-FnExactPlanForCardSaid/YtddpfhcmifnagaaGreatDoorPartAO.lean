/-
  CONTRACTS AND PLAIN FACTS, several texts in one; each says in its own words what it proves.
-/
import Derived.Test.YtddpfhcmifnagaaGreatDoorPartAN
import Derived.Test.YtddpfhcmifnagaaGreatDoorPartAL

/-
  CONTRACTS of the model's l22Asked and PlanFor; nothing that was there before is changed.
-/
namespace Go.Proofs.YtddpfhcmifnagaaGreatDoor.Srv
open Go Go.RowKit
set_option linter.unusedVariables false
set_option maxRecDepth 1000000

/-- The request accepts the answer as far as its age goes. -/
def asked (A : List D) (a l : Int) : Bool := !has ncN A && ((!(Dir.sof Lif.maN A).2 || decide (a ≤ (Dir.sof Lif.maN A).1)) && (!(Dir.sof mfN A).2 || decide ((Dir.sof mfN A).1 ≤ RowKit.wrap64 (l - a))))
theorem refused_eq (A G : List D) (a l : Int) : refused A G a l = (!asked A a l || has ncN G) := by
  unfold refused asked old
  generalize has ncN A = b0
  generalize has ncN G = b1
  generalize Dir.sof Lif.maN A = s1
  generalize Dir.sof mfN A = s2
  obtain ⟨s1, k1⟩ := s1
  obtain ⟨s2, k2⟩ := s2
  have e1 : decide (s1 < a) = !decide (a ≤ s1) := by by_cases h : a ≤ s1 <;> simp [h] <;> omega
  have e2 : decide (RowKit.wrap64 (l - a) < s2) = !decide (s2 ≤ RowKit.wrap64 (l - a)) := by by_cases h : s2 ≤ RowKit.wrap64 (l - a) <;> simp [h] <;> omega
  simp only [e1, e2]
  generalize decide (a ≤ s1) = d1
  generalize decide (s2 ≤ RowKit.wrap64 (l - a)) = d2
  revert b0 b1 k1 k2 d1 d2
  decide

set_option maxHeartbeats 4000000 in
theorem spec_asked (u v : Value) (A G : List D) (a l : Int) (B : Nat) (w : World) (h : Sv w B u v A G) : Calls Tryz.prog 31 #[u, .int .i64 a, .int .i64 l] w (BoolEnd (asked A a l) w) := by
  have HX0 := Lib.hid (ssec_a h Lif.maN)
  have HX1 := Lib.hid (ssec_a h mfN)
  have HX2 := Lib.hid (shas_a h ncN)
  have HE : Hid (asked A a l = (!has ncN A && ((!(Dir.sof Lif.maN A).2 || decide (a ≤ (Dir.sof Lif.maN A).1)) && (!(Dir.sof mfN A).2 || decide ((Dir.sof mfN A).1 ≤ RowKit.wrap64 (l - a)))))) := Lib.hid rfl
  generalize asked A a l = z at HE ⊢
  generalize has ncN A = b0 at HX2 HE
  generalize Dir.sof Lif.maN A = s1 at HX0 HE
  generalize Dir.sof mfN A = s2 at HX1 HE
  obtain ⟨s1, k1⟩ := s1
  obtain ⟨s2, k2⟩ := s2
  simp only at HX0 HX1 HE
  unfold Lif.maN at HX0
  unfold mfN at HX1
  unfold ncN at HX2
  unfold BoolEnd
  have HB0 := Lib.hid (Below.refl w.heap.size w)
  clear h
  go_enter Tryz.func31, Tryz.ntmps31
  go_wp2_with (fail)
  go_at_call 20
  refine (HX0.out _ HB0.out).mono ?_
  rintro e w1 ⟨rfl, hb1⟩
  have HB1 := Lib.hid (Base.then_below HB0.out hb1)
  clear hb1
  go_wp2_with (fail)
  go_at_call 20
  refine (HX1.out _ HB1.out).mono ?_
  rintro e w2 ⟨rfl, hb2⟩
  have HB2 := Lib.hid (Base.then_below HB1.out hb2)
  clear hb2
  go_wp2_with (fail)
  go_at_call 22
  refine (HX2.out _ HB2.out).mono ?_
  rintro e w3 ⟨rfl, hb3⟩
  have HB3 := Lib.hid (Base.then_below HB2.out hb3)
  clear hb3
  cases b0 with
  | true =>
    go_wp2
    go_ret
    exact ⟨ret_b (by rw [HE.out]; rfl), HB3.out⟩
  | false =>
    have hk : (k1 = false) ∨ (k1 = true ∧ a ≤ s1) ∨ (k1 = true ∧ ¬ a ≤ s1) := by cases k1 <;> simp <;> omega
    have hj : (k2 = false) ∨ (k2 = true ∧ s2 ≤ RowKit.wrap64 (l - a)) ∨ (k2 = true ∧ ¬ s2 ≤ RowKit.wrap64 (l - a)) := by cases k2 <;> simp <;> omega
    rcases hk with rfl | ⟨rfl, h1⟩ | ⟨rfl, h1⟩ <;> rcases hj with rfl | ⟨rfl, h2⟩ | ⟨rfl, h2⟩
    all_goals (
      go_wp2
      go_ret
      exact ⟨ret_b (by rw [HE.out]; first | (simp; done) | (simp [h2]; done) | (simp [h1]; done) | (simp [h1, h2]; done) | (simp [h2]; omega) | (simp [h1]; omega) | (simp [h1, h2]; omega)), HB3.out⟩)

theorem taken_no {A : List D} {a l : Int} (h : ¬ 0 ≤ Dir.at1 msN A) : taken A a l = false := by
  unfold taken bare over
  rw [sof_has, show has msN A = false by unfold has; simpa using h, decide_eq_false h]; rfl
theorem taken_yes {A : List D} {a l : Int} (h : 0 ≤ Dir.at1 msN A) : taken A a l = (!(A.getD (Dir.at1 msN A).toNat Dir.nov).2.2 || decide (RowKit.wrap64 (a - l) ≤ (Dir.sof msN A).1)) := by
  unfold taken bare over
  rw [sof_has, show has msN A = true by unfold has; simpa using h, decide_eq_true h, IntWalk.i64_left]; simp

set_option maxHeartbeats 16000000 in
theorem spec_plan (me ho t : List UInt8) (u : Value) (l : List Flds.Fld) (c : Int) (v : Value) (m : List Flds.Fld) (b : List UInt8) (a f : Int) (B : Nat) (w : World) (h : Flds.Holds w B u l) (h2 : Flds.Holds w B v m) (hB : B ≤ w.heap.size) (hl : Flds.total l ≤ 1048576) (hm : Flds.total m ≤ 1048576) (hv : Dir.Errs w) :
    Calls Tryz.prog 14 #[.agg #[.string ⟨me.toArray⟩, .string ⟨ho.toArray⟩, .string ⟨t.toArray⟩, u], .agg #[.int .i64 c, v, .string ⟨b.toArray⟩], .int .i64 a, .int .i64 f] w (NumEnd (plan (Lif.rules l) (Lif.rules m) a f) w) := by
  have HB0 : Hid (Below w.heap.size w ((w.alloc (.cells #[.string ⟨me.toArray⟩, .string ⟨ho.toArray⟩, .string ⟨t.toArray⟩, u] 32)).alloc (.cells #[.int .i64 c, v, .string ⟨b.toArray⟩] 35))) := Lib.hid (((Below.refl _ _).alloc (Nat.le_refl _) _).alloc (by simp) _)
  have HK : Hid (∀ W, Below ((w.alloc (.cells #[.string ⟨me.toArray⟩, .string ⟨ho.toArray⟩, .string ⟨t.toArray⟩, u] 32)).alloc (.cells #[.int .i64 c, v, .string ⟨b.toArray⟩] 35)).heap.size ((w.alloc (.cells #[.string ⟨me.toArray⟩, .string ⟨ho.toArray⟩, .string ⟨t.toArray⟩, u] 32)).alloc (.cells #[.int .i64 c, v, .string ⟨b.toArray⟩] 35)) W → (W.cell? ⟨w.heap.size, 3, none⟩ = some u ∧ W.cell? ⟨w.heap.size + 1, 1, none⟩ = some v)) := Lib.hid (fun W hb => ⟨(Kept.one (Kept.below_in hb)).1 3 _ rfl, (Kept.two hb).1 1 _ rfl⟩)
  have HRL := Lib.hid (fun W (hb : Below w.heap.size w W) => Lif.spec_rules u B l W (Flds.holds_below h (hb.mono hB)) hl)
  have HRM := Lib.hid (fun W (hb : Below w.heap.size w W) => Lif.spec_rules v B m W (Flds.holds_below h2 (hb.mono hB)) hm)
  have HSS := Lib.hid (fun p q W B' B'' (x : Dir.Own W B' p (Lif.rules l)) (y : Dir.Own W B'' q (Lif.rules m)) => rules_sv x y hl hm)
  have HE : Hid (plan (Lif.rules l) (Lif.rules m) a f = if step (Lif.rules l) (Lif.rules m) a f = 3 ∧ has ocN (Lif.rules l) = true then 4 else step (Lif.rules l) (Lif.rules m) a f) := Lib.hid rfl
  have HST : Hid (step (Lif.rules l) (Lif.rules m) a f = if refused (Lif.rules l) (Lif.rules m) a f = true then 3 else if a < f then 1 else if (bound (Lif.rules m) || (Dir.sof mfN (Lif.rules l)).2) = true then 3 else if taken (Lif.rules l) a f = true then 1 else if over swN (Lif.rules m) a f = true then 2 else 3) := Lib.hid (by unfold step must; rw [sof_has])
  have HRF := Lib.hid (refused_eq (Lif.rules l) (Lif.rules m) a f)
  have HLN : Hid (over swN (Lif.rules m) a f = ((Dir.sof swN (Lif.rules m)).2 && decide (RowKit.wrap64 (a - f) ≤ (Dir.sof swN (Lif.rules m)).1))) := Lib.hid (by unfold over; rw [IntWalk.i64_left])
  have HTK0 := Lib.hid (fun (h : ¬ 0 ≤ Dir.at1 msN (Lif.rules l)) => taken_no (a := a) (l := f) h)
  have HTK1 := Lib.hid (fun (h : 0 ≤ Dir.at1 msN (Lif.rules l)) => taken_yes (a := a) (l := f) h)
  have HSM := Lib.hid (sof_has msN (Lif.rules l))
  unfold Lif.RulesEnd at HRL HRM
  generalize plan (Lif.rules l) (Lif.rules m) a f = z at HE ⊢
  generalize step (Lif.rules l) (Lif.rules m) a f = st at HE HST
  generalize refused (Lif.rules l) (Lif.rules m) a f = rf at HST HRF
  generalize taken (Lif.rules l) a f = tk at HST HTK0 HTK1
  generalize over swN (Lif.rules m) a f = ln at HST HLN
  generalize Lif.rules l = A at HRL HSS HE HST HRF HTK0 HTK1 HSM
  generalize Lif.rules m = G at HRM HSS HST HRF HLN
  unfold NumEnd
  clear h h2 hl hm hv
  go_enter Tryz.func14, Tryz.ntmps14
  obtain ⟨q3, q1⟩ := HK.out _ (Below.refl _ _)
  go_wp2_with (fail)
  go_at_call 19
  refine (HRL.out _ HB0.out).mono ?_
  rintro e w1 ⟨p, rfl, oA, hb1⟩
  obtain ⟨aA, cA, rfl, _⟩ := Rec.shape_at oA
  have HR1_ := Lib.hid hb1
  have HB1_ := Lib.hid (Base.then_below HB0.out hb1)
  have HOA := Lib.hid oA
  clear q3 q1 oA hb1
  obtain ⟨q3, q1⟩ := HK.out _ HR1_.out
  go_wp2_with (fail)
  go_at_call 19
  refine (HRM.out _ HB1_.out).mono ?_
  rintro e w2 ⟨q, rfl, oG, hb2⟩
  obtain ⟨aG, cG, rfl, _⟩ := Rec.shape_at oG
  have HB0' := Lib.hid (Base.then_below HB1_.out hb2)
  have HS1 := Lib.hid (HSS.out _ _ _ _ _ (Dir.row_below HOA.out hb2) oG)
  have HXms := Lib.hid (fun W (hb : Below w2.heap.size w2 W) => ssec_a HS1.out msN W hb)
  have HXfd := Lib.hid (fun W (hb : Below w2.heap.size w2 W) => Dir.spec_find _ _ A msN W (sv_below HS1.out hb).hu HS1.out.la)
  have HXsw := Lib.hid (fun W (hb : Below w2.heap.size w2 W) => ssec_g HS1.out swN W hb)
  have HXmf := Lib.hid (fun W (hb : Below w2.heap.size w2 W) => ssec_a HS1.out mfN W hb)
  have HXas := Lib.hid (fun W (hb : Below w2.heap.size w2 W) => spec_asked _ _ A G a f _ W (sv_below HS1.out hb))
  have HXnc := Lib.hid (fun W (hb : Below w2.heap.size w2 W) => shas_g HS1.out ncN W hb)
  have HXbd := Lib.hid (fun W (hb : Below w2.heap.size w2 W) => spec_bound _ _ A G _ W (sv_below HS1.out hb))
  have HXoc := Lib.hid (fun W (hb : Below w2.heap.size w2 W) => shas_a HS1.out ocN W hb)
  unfold BoolEnd at HXas HXbd
  unfold Dir.FindEnd at HXfd
  generalize asked A a f = bas at HXas HRF
  generalize has ncN G = bnc at HXnc HRF
  generalize bound G = bbd at HXbd HST
  generalize has ocN A = boc at HXoc HE
  generalize Dir.sof swN G = ssw at HXsw HLN
  generalize Dir.sof mfN A = smf at HXmf HST
  obtain ⟨msw, ksw⟩ := ssw
  obtain ⟨mmf, kmf⟩ := smf
  simp only at HXsw HXmf HST HLN
  unfold swN at HXsw
  unfold mfN at HXmf
  unfold ncN at HXnc
  unfold ocN at HXoc
  have HR0 := Lib.hid (Below.refl w2.heap.size w2)
  have HAC := Lib.hid (at1_cell HS1.out.hu msN)
  clear q3 q1 oG hb2
  by_cases h0 : 0 ≤ Dir.at1 msN A
  · obtain ⟨j, b_, off, cap, hj, hjl, hue, hbb, hc⟩ := HAC.out h0
    simp only [Value.slice.injEq] at hue
    obtain ⟨rfl, _, rfl⟩ := hue
    have HTK := Lib.hid (HTK1.out h0)
    have hsm := HSM.out
    rw [show has msN A = true by unfold has; simpa using h0] at hsm
    rw [hj] at HXfd HTK
    have c2 := (Dir.at_cells hc hjl).2.2
    rw [Int.toNat_natCast] at HTK
    generalize A.getD j Dir.nov = d at c2 HTK
    obtain ⟨d0, d1, d2⟩ := d
    generalize Dir.sof msN A = sms at HXms HTK hsm
    obtain ⟨mms, kms⟩ := sms
    simp only at c2 HTK HXms hsm
    subst hsm
    unfold msN at HXms HXfd
    have HC2 := Lib.hid c2
    have HBL : Hid (b_ < w2.heap.size) := Lib.hid hbb
    have HJ : Hid ((j : Int) < (A.length : Int)) := Lib.hid (by omega)
    clear h0 hj hjl hbb hc c2 HAC HTK0 HTK1 HSM
    go_wp2_with (fail)
    go_at_call 20
    refine (HXms.out _ HR0.out).mono ?_
    rintro e x1 ⟨rfl, hb1⟩
    have HR1 := Lib.hid (Base.then_below HR0.out hb1)
    have HB1 := Lib.hid (Base.then_below HB0'.out HR1.out)
    clear hb1
    go_wp2_with (fail)
    go_at_call 30
    refine (HXfd.out _ HR1.out).mono ?_
    rintro e x2 ⟨rfl, hb2⟩
    have HR2 := Lib.hid (Base.then_below HR1.out hb2)
    have HB2 := Lib.hid (Base.then_below HB0'.out HR2.out)
    clear hb2
    go_wp2_with (fail)
    go_at_call 20
    refine (HXsw.out _ HR2.out).mono ?_
    rintro e x3 ⟨rfl, hb3⟩
    have HR3 := Lib.hid (Base.then_below HR2.out hb3)
    have HB3 := Lib.hid (Base.then_below HB0'.out HR3.out)
    clear hb3
    go_wp2_with (fail)
    go_at_call 20
    refine (HXmf.out _ HR3.out).mono ?_
    rintro e x4 ⟨rfl, hb4⟩
    have HR4 := Lib.hid (Base.then_below HR3.out hb4)
    have HB4 := Lib.hid (Base.then_below HB0'.out HR4.out)
    clear hb4
    go_wp2_with (fail)
    go_at_call 31
    refine (HXas.out _ HR4.out).mono ?_
    rintro e x5 ⟨rfl, hb5⟩
    have HR5 := Lib.hid (Base.then_below HR4.out hb5)
    have HB5 := Lib.hid (Base.then_below HB0'.out HR5.out)
    clear hb5
    cases has_ : bas with
    | false =>
      go_wp2_with (fail)
      go_at_call 22
      refine (HXoc.out _ HR5.out).mono ?_
      rintro e x6 ⟨rfl, hb6⟩
      have HR6 := Lib.hid (Base.then_below HR5.out hb6)
      have HB6 := Lib.hid (Base.then_below HB0'.out HR6.out)
      clear hb6
      cases hoc : boc with
      | true =>
        have HF : Hid (z = 4) := Lib.hid (by rw [HE.out, HST.out, HRF.out, has_, Bool.not_false, Bool.true_or, if_pos rfl, hoc]; rfl)
        go_wp2
        go_ret
        exact ⟨ret_n HF.out.symm, HB6.out⟩
      | false =>
        have HF : Hid (z = 3) := Lib.hid (by rw [HE.out, HST.out, HRF.out, has_, Bool.not_false, Bool.true_or, if_pos rfl, hoc]; rfl)
        go_wp2
        go_ret
        exact ⟨ret_n HF.out.symm, HB6.out⟩
    | true =>
      go_wp2_with (fail)
      go_at_call 22
      refine (HXnc.out _ HR5.out).mono ?_
      rintro e x6 ⟨rfl, hb6⟩
      have HR6 := Lib.hid (Base.then_below HR5.out hb6)
      have HB6 := Lib.hid (Base.then_below HB0'.out HR6.out)
      clear hb6
      cases hnc : bnc with
      | true =>
        go_wp2_with (fail)
        go_at_call 22
        refine (HXoc.out _ HR6.out).mono ?_
        rintro e x7 ⟨rfl, hb7⟩
        have HR7 := Lib.hid (Base.then_below HR6.out hb7)
        have HB7 := Lib.hid (Base.then_below HB0'.out HR7.out)
        clear hb7
        cases hoc : boc with
        | true =>
          have HF : Hid (z = 4) := Lib.hid (by rw [HE.out, HST.out, HRF.out, has_, hnc, Bool.or_true, if_pos rfl, hoc]; rfl)
          go_wp2
          go_ret
          exact ⟨ret_n HF.out.symm, HB7.out⟩
        | false =>
          have HF : Hid (z = 3) := Lib.hid (by rw [HE.out, HST.out, HRF.out, has_, hnc, Bool.or_true, if_pos rfl, hoc]; rfl)
          go_wp2
          go_ret
          exact ⟨ret_n HF.out.symm, HB7.out⟩
      | false =>
        by_cases hlt : a < f
        · have HLT := Lib.hid hlt
          have HF : Hid (z = 1) := Lib.hid (by rw [HE.out, HST.out, HRF.out, has_, hnc, show (!true || false) = false from rfl, if_neg Bool.false_ne_true, if_pos HLT.out]; rfl)
          go_wp2
          go_ret
          exact ⟨ret_n HF.out.symm, HB6.out⟩
        · have HLT := Lib.hid hlt
          go_wp2_with (fail)
          go_at_call 21
          refine (HXbd.out _ HR6.out).mono ?_
          rintro e x7 ⟨rfl, hb7⟩
          have HR7 := Lib.hid (Base.then_below HR6.out hb7)
          have HB7 := Lib.hid (Base.then_below HB0'.out HR7.out)
          clear hb7
          cases hbd : bbd with
          | true =>
            go_wp2_with (fail)
            go_at_call 22
            refine (HXoc.out _ HR7.out).mono ?_
            rintro e x8 ⟨rfl, hb8⟩
            have HR8 := Lib.hid (Base.then_below HR7.out hb8)
            have HB8 := Lib.hid (Base.then_below HB0'.out HR8.out)
            clear hb8
            cases hoc : boc with
            | true =>
              have HF : Hid (z = 4) := Lib.hid (by rw [HE.out, HST.out, HRF.out, has_, hnc, show (!true || false) = false from rfl, if_neg Bool.false_ne_true, if_neg (show ¬ a < f by have := HLT.out; omega), hbd, Bool.true_or, if_pos rfl, hoc]; rfl)
              go_wp2
              go_ret
              exact ⟨ret_n HF.out.symm, HB8.out⟩
            | false =>
              have HF : Hid (z = 3) := Lib.hid (by rw [HE.out, HST.out, HRF.out, has_, hnc, show (!true || false) = false from rfl, if_neg Bool.false_ne_true, if_neg (show ¬ a < f by have := HLT.out; omega), hbd, Bool.true_or, if_pos rfl, hoc]; rfl)
              go_wp2
              go_ret
              exact ⟨ret_n HF.out.symm, HB8.out⟩
          | false =>
            cases hyo : kmf with
            | true =>
              go_wp2_with (fail)
              go_at_call 22
              refine (HXoc.out _ HR7.out).mono ?_
              rintro e x8 ⟨rfl, hb8⟩
              have HR8 := Lib.hid (Base.then_below HR7.out hb8)
              have HB8 := Lib.hid (Base.then_below HB0'.out HR8.out)
              clear hb8
              cases hoc : boc with
              | true =>
                have HF : Hid (z = 4) := Lib.hid (by rw [HE.out, HST.out, HRF.out, has_, hnc, show (!true || false) = false from rfl, if_neg Bool.false_ne_true, if_neg (show ¬ a < f by have := HLT.out; omega), hbd, hyo, Bool.or_true, if_pos rfl, hoc]; rfl)
                go_wp2
                go_ret
                exact ⟨ret_n HF.out.symm, HB8.out⟩
              | false =>
                have HF : Hid (z = 3) := Lib.hid (by rw [HE.out, HST.out, HRF.out, has_, hnc, show (!true || false) = false from rfl, if_neg Bool.false_ne_true, if_neg (show ¬ a < f by have := HLT.out; omega), hbd, hyo, Bool.or_true, if_pos rfl, hoc]; rfl)
                go_wp2
                go_ret
                exact ⟨ret_n HF.out.symm, HB8.out⟩
            | false =>
              have c2 := (HR7.out.cell (p := ⟨b_, off + j * 3 + 2, none⟩) HBL.out).trans HC2.out
              have hj0 : (0 : Int) ≤ (j : Int) := by omega
              have hj1 := HJ.out
              cases hd : d2 with
              | false =>
                rw [hd] at c2
                have HF : Hid (z = 1) := Lib.hid (by rw [HE.out, HST.out, HRF.out, has_, hnc, show (!true || false) = false from rfl, if_neg Bool.false_ne_true, if_neg (show ¬ a < f by have := HLT.out; omega), hbd, hyo, show (false || false) = false from rfl, if_neg Bool.false_ne_true, HTK.out, hd, show (!false || decide (RowKit.wrap64 (a - f) ≤ mms)) = true from rfl, if_pos rfl]; rfl)
                go_wp2
                go_ret
                exact ⟨ret_n HF.out.symm, HB7.out⟩
              | true =>
                rw [hd] at c2
                by_cases hov : RowKit.wrap64 (a - f) ≤ mms
                · have HOV := Lib.hid hov
                  have HF : Hid (z = 1) := Lib.hid (by rw [HE.out, HST.out, HRF.out, has_, hnc, show (!true || false) = false from rfl, if_neg Bool.false_ne_true, if_neg (show ¬ a < f by have := HLT.out; omega), hbd, hyo, show (false || false) = false from rfl, if_neg Bool.false_ne_true, HTK.out, hd, decide_eq_true HOV.out, Bool.or_true, if_pos rfl]; rfl)
                  go_wp2
                  go_ret
                  exact ⟨ret_n HF.out.symm, HB7.out⟩
                · have HOV := Lib.hid hov
                  cases hsw : ksw with
                  | true =>
                    by_cases hov2 : RowKit.wrap64 (a - f) ≤ msw
                    · have HO2 := Lib.hid hov2
                      have HF : Hid (z = 2) := Lib.hid (by rw [HE.out, HST.out, HRF.out, has_, hnc, show (!true || false) = false from rfl, if_neg Bool.false_ne_true, if_neg (show ¬ a < f by have := HLT.out; omega), hbd, hyo, show (false || false) = false from rfl, if_neg Bool.false_ne_true, HTK.out, hd, decide_eq_false (show ¬ RowKit.wrap64 (a - f) ≤ mms by have := HOV.out; omega), show (!true || false) = false from rfl, if_neg Bool.false_ne_true, HLN.out, hsw, decide_eq_true HO2.out, Bool.true_and, if_pos rfl]; rfl)
                      go_wp2
                      go_ret
                      exact ⟨ret_n HF.out.symm, HB7.out⟩
                    · have HO2 := Lib.hid hov2
                      go_wp2_with (fail)
                      go_at_call 22
                      refine (HXoc.out _ HR7.out).mono ?_
                      rintro e x8 ⟨rfl, hb8⟩
                      have HR8 := Lib.hid (Base.then_below HR7.out hb8)
                      have HB8 := Lib.hid (Base.then_below HB0'.out HR8.out)
                      clear hb8
                      cases hoc : boc with
                      | true =>
                        have HF : Hid (z = 4) := Lib.hid (by rw [HE.out, HST.out, HRF.out, has_, hnc, show (!true || false) = false from rfl, if_neg Bool.false_ne_true, if_neg (show ¬ a < f by have := HLT.out; omega), hbd, hyo, show (false || false) = false from rfl, if_neg Bool.false_ne_true, HTK.out, hd, decide_eq_false (show ¬ RowKit.wrap64 (a - f) ≤ mms by have := HOV.out; omega), show (!true || false) = false from rfl, if_neg Bool.false_ne_true, HLN.out, hsw, decide_eq_false (show ¬ RowKit.wrap64 (a - f) ≤ msw by have := HO2.out; omega), Bool.true_and, if_neg Bool.false_ne_true, hoc]; rfl)
                        go_wp2
                        go_ret
                        exact ⟨ret_n HF.out.symm, HB8.out⟩
                      | false =>
                        have HF : Hid (z = 3) := Lib.hid (by rw [HE.out, HST.out, HRF.out, has_, hnc, show (!true || false) = false from rfl, if_neg Bool.false_ne_true, if_neg (show ¬ a < f by have := HLT.out; omega), hbd, hyo, show (false || false) = false from rfl, if_neg Bool.false_ne_true, HTK.out, hd, decide_eq_false (show ¬ RowKit.wrap64 (a - f) ≤ mms by have := HOV.out; omega), show (!true || false) = false from rfl, if_neg Bool.false_ne_true, HLN.out, hsw, decide_eq_false (show ¬ RowKit.wrap64 (a - f) ≤ msw by have := HO2.out; omega), Bool.true_and, if_neg Bool.false_ne_true, hoc]; rfl)
                        go_wp2
                        go_ret
                        exact ⟨ret_n HF.out.symm, HB8.out⟩
                  | false =>
                    go_wp2_with (fail)
                    go_at_call 22
                    refine (HXoc.out _ HR7.out).mono ?_
                    rintro e x8 ⟨rfl, hb8⟩
                    have HR8 := Lib.hid (Base.then_below HR7.out hb8)
                    have HB8 := Lib.hid (Base.then_below HB0'.out HR8.out)
                    clear hb8
                    cases hoc : boc with
                    | true =>
                      have HF : Hid (z = 4) := Lib.hid (by rw [HE.out, HST.out, HRF.out, has_, hnc, show (!true || false) = false from rfl, if_neg Bool.false_ne_true, if_neg (show ¬ a < f by have := HLT.out; omega), hbd, hyo, show (false || false) = false from rfl, if_neg Bool.false_ne_true, HTK.out, hd, decide_eq_false (show ¬ RowKit.wrap64 (a - f) ≤ mms by have := HOV.out; omega), show (!true || false) = false from rfl, if_neg Bool.false_ne_true, HLN.out, hsw, Bool.false_and, if_neg Bool.false_ne_true, hoc]; rfl)
                      go_wp2
                      go_ret
                      exact ⟨ret_n HF.out.symm, HB8.out⟩
                    | false =>
                      have HF : Hid (z = 3) := Lib.hid (by rw [HE.out, HST.out, HRF.out, has_, hnc, show (!true || false) = false from rfl, if_neg Bool.false_ne_true, if_neg (show ¬ a < f by have := HLT.out; omega), hbd, hyo, show (false || false) = false from rfl, if_neg Bool.false_ne_true, HTK.out, hd, decide_eq_false (show ¬ RowKit.wrap64 (a - f) ≤ mms by have := HOV.out; omega), show (!true || false) = false from rfl, if_neg Bool.false_ne_true, HLN.out, hsw, Bool.false_and, if_neg Bool.false_ne_true, hoc]; rfl)
                      go_wp2
                      go_ret
                      exact ⟨ret_n HF.out.symm, HB8.out⟩
  · have HTK := Lib.hid (HTK0.out (by omega))
    have hsm := HSM.out
    rw [show has msN A = false by unfold has; simpa using h0] at hsm
    generalize Dir.sof msN A = sms at HXms hsm
    obtain ⟨mms, kms⟩ := sms
    simp only at HXms hsm
    subst hsm
    generalize Dir.at1 msN A = jf at HXfd
    unfold msN at HXms HXfd
    clear h0 HAC HTK0 HTK1 HSM
    go_wp2_with (fail)
    go_at_call 20
    refine (HXms.out _ HR0.out).mono ?_
    rintro e x1 ⟨rfl, hb1⟩
    have HR1 := Lib.hid (Base.then_below HR0.out hb1)
    have HB1 := Lib.hid (Base.then_below HB0'.out HR1.out)
    clear hb1
    go_wp2_with (fail)
    go_at_call 30
    refine (HXfd.out _ HR1.out).mono ?_
    rintro e x2 ⟨rfl, hb2⟩
    have HR2 := Lib.hid (Base.then_below HR1.out hb2)
    have HB2 := Lib.hid (Base.then_below HB0'.out HR2.out)
    clear hb2
    go_wp2_with (fail)
    go_at_call 20
    refine (HXsw.out _ HR2.out).mono ?_
    rintro e x3 ⟨rfl, hb3⟩
    have HR3 := Lib.hid (Base.then_below HR2.out hb3)
    have HB3 := Lib.hid (Base.then_below HB0'.out HR3.out)
    clear hb3
    go_wp2_with (fail)
    go_at_call 20
    refine (HXmf.out _ HR3.out).mono ?_
    rintro e x4 ⟨rfl, hb4⟩
    have HR4 := Lib.hid (Base.then_below HR3.out hb4)
    have HB4 := Lib.hid (Base.then_below HB0'.out HR4.out)
    clear hb4
    go_wp2_with (fail)
    go_at_call 31
    refine (HXas.out _ HR4.out).mono ?_
    rintro e x5 ⟨rfl, hb5⟩
    have HR5 := Lib.hid (Base.then_below HR4.out hb5)
    have HB5 := Lib.hid (Base.then_below HB0'.out HR5.out)
    clear hb5
    cases has_ : bas with
    | false =>
      go_wp2_with (fail)
      go_at_call 22
      refine (HXoc.out _ HR5.out).mono ?_
      rintro e x6 ⟨rfl, hb6⟩
      have HR6 := Lib.hid (Base.then_below HR5.out hb6)
      have HB6 := Lib.hid (Base.then_below HB0'.out HR6.out)
      clear hb6
      cases hoc : boc with
      | true =>
        have HF : Hid (z = 4) := Lib.hid (by rw [HE.out, HST.out, HRF.out, has_, Bool.not_false, Bool.true_or, if_pos rfl, hoc]; rfl)
        go_wp2
        go_ret
        exact ⟨ret_n HF.out.symm, HB6.out⟩
      | false =>
        have HF : Hid (z = 3) := Lib.hid (by rw [HE.out, HST.out, HRF.out, has_, Bool.not_false, Bool.true_or, if_pos rfl, hoc]; rfl)
        go_wp2
        go_ret
        exact ⟨ret_n HF.out.symm, HB6.out⟩
    | true =>
      go_wp2_with (fail)
      go_at_call 22
      refine (HXnc.out _ HR5.out).mono ?_
      rintro e x6 ⟨rfl, hb6⟩
      have HR6 := Lib.hid (Base.then_below HR5.out hb6)
      have HB6 := Lib.hid (Base.then_below HB0'.out HR6.out)
      clear hb6
      cases hnc : bnc with
      | true =>
        go_wp2_with (fail)
        go_at_call 22
        refine (HXoc.out _ HR6.out).mono ?_
        rintro e x7 ⟨rfl, hb7⟩
        have HR7 := Lib.hid (Base.then_below HR6.out hb7)
        have HB7 := Lib.hid (Base.then_below HB0'.out HR7.out)
        clear hb7
        cases hoc : boc with
        | true =>
          have HF : Hid (z = 4) := Lib.hid (by rw [HE.out, HST.out, HRF.out, has_, hnc, Bool.or_true, if_pos rfl, hoc]; rfl)
          go_wp2
          go_ret
          exact ⟨ret_n HF.out.symm, HB7.out⟩
        | false =>
          have HF : Hid (z = 3) := Lib.hid (by rw [HE.out, HST.out, HRF.out, has_, hnc, Bool.or_true, if_pos rfl, hoc]; rfl)
          go_wp2
          go_ret
          exact ⟨ret_n HF.out.symm, HB7.out⟩
      | false =>
        by_cases hlt : a < f
        · have HLT := Lib.hid hlt
          have HF : Hid (z = 1) := Lib.hid (by rw [HE.out, HST.out, HRF.out, has_, hnc, show (!true || false) = false from rfl, if_neg Bool.false_ne_true, if_pos HLT.out]; rfl)
          go_wp2
          go_ret
          exact ⟨ret_n HF.out.symm, HB6.out⟩
        · have HLT := Lib.hid hlt
          go_wp2_with (fail)
          go_at_call 21
          refine (HXbd.out _ HR6.out).mono ?_
          rintro e x7 ⟨rfl, hb7⟩
          have HR7 := Lib.hid (Base.then_below HR6.out hb7)
          have HB7 := Lib.hid (Base.then_below HB0'.out HR7.out)
          clear hb7
          cases hbd : bbd with
          | true =>
            go_wp2_with (fail)
            go_at_call 22
            refine (HXoc.out _ HR7.out).mono ?_
            rintro e x8 ⟨rfl, hb8⟩
            have HR8 := Lib.hid (Base.then_below HR7.out hb8)
            have HB8 := Lib.hid (Base.then_below HB0'.out HR8.out)
            clear hb8
            cases hoc : boc with
            | true =>
              have HF : Hid (z = 4) := Lib.hid (by rw [HE.out, HST.out, HRF.out, has_, hnc, show (!true || false) = false from rfl, if_neg Bool.false_ne_true, if_neg (show ¬ a < f by have := HLT.out; omega), hbd, Bool.true_or, if_pos rfl, hoc]; rfl)
              go_wp2
              go_ret
              exact ⟨ret_n HF.out.symm, HB8.out⟩
            | false =>
              have HF : Hid (z = 3) := Lib.hid (by rw [HE.out, HST.out, HRF.out, has_, hnc, show (!true || false) = false from rfl, if_neg Bool.false_ne_true, if_neg (show ¬ a < f by have := HLT.out; omega), hbd, Bool.true_or, if_pos rfl, hoc]; rfl)
              go_wp2
              go_ret
              exact ⟨ret_n HF.out.symm, HB8.out⟩
          | false =>
            cases hyo : kmf with
            | true =>
              go_wp2_with (fail)
              go_at_call 22
              refine (HXoc.out _ HR7.out).mono ?_
              rintro e x8 ⟨rfl, hb8⟩
              have HR8 := Lib.hid (Base.then_below HR7.out hb8)
              have HB8 := Lib.hid (Base.then_below HB0'.out HR8.out)
              clear hb8
              cases hoc : boc with
              | true =>
                have HF : Hid (z = 4) := Lib.hid (by rw [HE.out, HST.out, HRF.out, has_, hnc, show (!true || false) = false from rfl, if_neg Bool.false_ne_true, if_neg (show ¬ a < f by have := HLT.out; omega), hbd, hyo, Bool.or_true, if_pos rfl, hoc]; rfl)
                go_wp2
                go_ret
                exact ⟨ret_n HF.out.symm, HB8.out⟩
              | false =>
                have HF : Hid (z = 3) := Lib.hid (by rw [HE.out, HST.out, HRF.out, has_, hnc, show (!true || false) = false from rfl, if_neg Bool.false_ne_true, if_neg (show ¬ a < f by have := HLT.out; omega), hbd, hyo, Bool.or_true, if_pos rfl, hoc]; rfl)
                go_wp2
                go_ret
                exact ⟨ret_n HF.out.symm, HB8.out⟩
            | false =>
              cases hsw : ksw with
              | true =>
                by_cases hov2 : RowKit.wrap64 (a - f) ≤ msw
                · have HO2 := Lib.hid hov2
                  have HF : Hid (z = 2) := Lib.hid (by rw [HE.out, HST.out, HRF.out, has_, hnc, show (!true || false) = false from rfl, if_neg Bool.false_ne_true, if_neg (show ¬ a < f by have := HLT.out; omega), hbd, hyo, show (false || false) = false from rfl, if_neg Bool.false_ne_true, HTK.out, if_neg Bool.false_ne_true, HLN.out, hsw, decide_eq_true HO2.out, Bool.true_and, if_pos rfl]; rfl)
                  go_wp2
                  go_ret
                  exact ⟨ret_n HF.out.symm, HB7.out⟩
                · have HO2 := Lib.hid hov2
                  go_wp2_with (fail)
                  go_at_call 22
                  refine (HXoc.out _ HR7.out).mono ?_
                  rintro e x8 ⟨rfl, hb8⟩
                  have HR8 := Lib.hid (Base.then_below HR7.out hb8)
                  have HB8 := Lib.hid (Base.then_below HB0'.out HR8.out)
                  clear hb8
                  cases hoc : boc with
                  | true =>
                    have HF : Hid (z = 4) := Lib.hid (by rw [HE.out, HST.out, HRF.out, has_, hnc, show (!true || false) = false from rfl, if_neg Bool.false_ne_true, if_neg (show ¬ a < f by have := HLT.out; omega), hbd, hyo, show (false || false) = false from rfl, if_neg Bool.false_ne_true, HTK.out, if_neg Bool.false_ne_true, HLN.out, hsw, decide_eq_false (show ¬ RowKit.wrap64 (a - f) ≤ msw by have := HO2.out; omega), Bool.true_and, if_neg Bool.false_ne_true, hoc]; rfl)
                    go_wp2
                    go_ret
                    exact ⟨ret_n HF.out.symm, HB8.out⟩
                  | false =>
                    have HF : Hid (z = 3) := Lib.hid (by rw [HE.out, HST.out, HRF.out, has_, hnc, show (!true || false) = false from rfl, if_neg Bool.false_ne_true, if_neg (show ¬ a < f by have := HLT.out; omega), hbd, hyo, show (false || false) = false from rfl, if_neg Bool.false_ne_true, HTK.out, if_neg Bool.false_ne_true, HLN.out, hsw, decide_eq_false (show ¬ RowKit.wrap64 (a - f) ≤ msw by have := HO2.out; omega), Bool.true_and, if_neg Bool.false_ne_true, hoc]; rfl)
                    go_wp2
                    go_ret
                    exact ⟨ret_n HF.out.symm, HB8.out⟩
              | false =>
                go_wp2_with (fail)
                go_at_call 22
                refine (HXoc.out _ HR7.out).mono ?_
                rintro e x8 ⟨rfl, hb8⟩
                have HR8 := Lib.hid (Base.then_below HR7.out hb8)
                have HB8 := Lib.hid (Base.then_below HB0'.out HR8.out)
                clear hb8
                cases hoc : boc with
                | true =>
                  have HF : Hid (z = 4) := Lib.hid (by rw [HE.out, HST.out, HRF.out, has_, hnc, show (!true || false) = false from rfl, if_neg Bool.false_ne_true, if_neg (show ¬ a < f by have := HLT.out; omega), hbd, hyo, show (false || false) = false from rfl, if_neg Bool.false_ne_true, HTK.out, if_neg Bool.false_ne_true, HLN.out, hsw, Bool.false_and, if_neg Bool.false_ne_true, hoc]; rfl)
                  go_wp2
                  go_ret
                  exact ⟨ret_n HF.out.symm, HB8.out⟩
                | false =>
                  have HF : Hid (z = 3) := Lib.hid (by rw [HE.out, HST.out, HRF.out, has_, hnc, show (!true || false) = false from rfl, if_neg Bool.false_ne_true, if_neg (show ¬ a < f by have := HLT.out; omega), hbd, hyo, show (false || false) = false from rfl, if_neg Bool.false_ne_true, HTK.out, if_neg Bool.false_ne_true, HLN.out, hsw, Bool.false_and, if_neg Bool.false_ne_true, hoc]; rfl)
                  go_wp2
                  go_ret
                  exact ⟨ret_n HF.out.symm, HB8.out⟩
end Go.Proofs.YtddpfhcmifnagaaGreatDoor.Srv
