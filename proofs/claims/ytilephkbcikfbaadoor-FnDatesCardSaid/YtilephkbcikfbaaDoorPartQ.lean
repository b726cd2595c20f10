/-
  CONTRACTS AND PLAIN FACTS, several texts in one; each says in its own words what it proves.
-/
import Derived.Test.YtilephkbcikfbaaDoorPartP
import Derived.Test.YtilephkbcikfbaaDoorPartM
import Derived.Test.YtilephkbcikfbaaDoorPartL
set_option linter.unusedSimpArgs false
set_option linter.unusedVariables false

/-
  CONTRACTS of the program's readPlainForm and readLongForm; nothing that was there before is changed.
-/
namespace Go.Proofs.YtilephkbcikfbaaDoor.Dt
open Go Go.RowKit
set_option linter.unusedVariables false
set_option maxRecDepth 1000000

theorem f2_year {l r : List UInt8} {p : Int × Bool} (hr : l.drop (l.length - 24) = r) (hck : ((r.drop 12).take 8).length = 8) (hp : tof (full (loose ((r.drop 9).take 2))) ((r.drop 5).take 3) (loose ((r.drop 2).take 2)) ((r.drop 12).take 8) = p) (hok : p.2 = true) {y m d : Int} (hcv : CV (p.1 / 86400) y m d) (e : l = form2 p.1 y m d) : y ≤ 2069 := by
  have hin := tof_in hck (by rw [hp]; exact hok)
  rw [hp] at hin
  obtain ⟨ht, hd2, hne⟩ := hin
  obtain ⟨a, b, c, f, g, i⟩ := cv_bd hcv
  obtain ⟨_, ⟨q1, q2, q3, q4⟩, _⟩ := read2 ht a b c f g i e
  rw [hr] at q1 q2 q3 q4
  rw [q1, q2, q3, q4] at hd2
  rw [q1, q2, q3] at hne
  have hcv2 := dof_pos hne
  have hfb := full_bd (y := y % 100) (by omega) (by omega)
  have h86 : dof (full (y % 100)) m d = p.1 / 86400 := by omega
  rw [h86] at hcv2
  have := (cv_uniq hcv hcv2).1
  omega

set_option maxRecDepth 1000000 in
set_option maxHeartbeats 4000000 in
theorem impl_third (l : List UInt8) (w : World) (hl : l.length ≤ 67108864) (ht : Mds w) (hn : Names w) (hten : Fmt.Tens w) :
    Calls Tryd.prog 21 #[.string ⟨l.toArray⟩] w (Reads (F3 l) w) := by
  have hsz : (⟨l.toArray⟩ : ByteArray).size = l.length := by simp [ByteArray.size]
  by_cases h29 : l.length = 24
  case neg =>
    have HNO : Hid (∀ t, ¬ F3 l t) := Lib.hid (fun t h => h29 (f3_read h).1)
    have hq : ((l.length : Int) == 24) = false := by rw [beq_eq_false_iff_ne]; omega
    go_enter Tryd.func21, Tryd.ntmps21
    go_wp2
    go_ret2
    exact ⟨Or.inr ⟨HNO.out, rfl⟩, Below.refl _ _⟩
  have HRD := Lib.hid (fun t (h : F3 l t) => (f3_read h).2)
  have hck : ((l.drop 11).take 8).length = 8 := by simp; omega
  have b1 := loose_bd ((l.drop 20).take 4)
  rw [show ((l.drop 20).take 4).length = 4 by simp; omega] at b1
  have HIN := Lib.hid (fun h => tof_in (y := loose ((l.drop 20).take 4)) (d := loose ((l.drop 8).take 2)) (mo := (l.drop 4).take 3) hck h)
  have HL1 := Lib.hid (fun W => loose_l ((l.drop 20).take 4) W (by simp; omega))
  have HL2 := Lib.hid (fun W => loose_l ((l.drop 8).take 2) W (by simp; omega))
  have HTO := Lib.hid (fun W (hb : Below w.heap.size w W) => impl_tof (loose ((l.drop 20).take 4)) ((l.drop 4).take 3) (loose ((l.drop 8).take 2)) ((l.drop 11).take 8) W (Go.WalkArith.wf_i64 ⟨by omega, by omega⟩) hck (mds_below ht hb) (names_below hn hb))
  have HFD := Lib.hid (fun t W (h : InT t) (hb : Below w.heap.size w W) => impl_plain t W h.1 h.2 (mds_below ht hb) (names_below hn hb) (Fmt.tens_below hten hb))
  have e1 : (⟨l.toArray⟩ : ByteArray).extract 20 24 = ⟨((l.drop 20).take 4).toArray⟩ := by rw [ext_l]
  have e2 : (⟨l.toArray⟩ : ByteArray).extract 4 7 = ⟨((l.drop 4).take 3).toArray⟩ := by rw [ext_l]
  have e3 : (⟨l.toArray⟩ : ByteArray).extract 8 10 = ⟨((l.drop 8).take 2).toArray⟩ := by rw [ext_l]
  have e4 : (⟨l.toArray⟩ : ByteArray).extract 11 19 = ⟨((l.drop 11).take 8).toArray⟩ := by rw [ext_l]
  rw [h29] at hsz
  unfold TofEnd at HTO
  unfold Dated3 at HFD
  have HF := Lib.hid (fun t (h : InT t) y m d (hc : CV (t / 86400) y m d) (e : l = form3 t y m d) => (⟨h, y, m, d, hc, e⟩ : F3 l t))
  have HFN := Lib.hid (fun t (h : ¬ F3 l t) y m d (hc : CV (t / 86400) y m d) (hi : InT t) (e : l = form3 t y m d) => h ⟨hi, y, m, d, hc, e⟩)
  have HFX : Hid (∀ t y m d, F3 l t → CV (t / 86400) y m d → l = form3 t y m d) := Lib.hid (fun t y m d ⟨_, y', m', d', hc', e⟩ hc => by obtain ⟨rfl, rfl, rfl⟩ := cv_uniq hc hc'; exact e)
  generalize (l.drop 20).take 4 = x1 at HL1 e1 b1 HTO HIN HRD
  generalize (l.drop 4).take 3 = x2 at e2 HTO HIN HRD
  generalize (l.drop 8).take 2 = x3 at HL2 e3 HTO HIN HRD
  generalize (l.drop 11).take 8 = x4 at e4 HTO HIN HRD
  generalize loose x1 = n1 at HL1 HTO HIN HRD
  generalize loose x3 = n3 at HL2 HTO HIN HRD
  generalize tof n1 x2 n3 x4 = p at HTO HIN HRD
  obtain ⟨t, ok⟩ := p
  simp only at HTO HIN
  have hl29 : (l.length : Int) = 24 := by omega
  have HSD : Hid (BelS w w.drew) := Lib.hid (Rec.below_drew (Below.refl _ _))
  have G1 : Hid (∀ u : RegS.In (BelS w), Calls Tryd.prog 36 #[.string ⟨x1.toArray⟩] u.w fun e w' => e = .returned (.int .i64 n1) ∧ u.w = w') := Lib.hid (fun u => HL1.out u.w)
  have G2 : Hid (∀ u : RegS.In (BelS w), Calls Tryd.prog 36 #[.string ⟨x3.toArray⟩] u.w fun e w' => e = .returned (.int .i64 n3) ∧ u.w = w') := Lib.hid (fun u => HL2.out u.w)
  have SK : Hid (∀ w0 w1' : World, BelS w w0 → Below w0.heap.size w0 w1' → BelS w w1') := Lib.hid (fun _ _ h hb => bels_call h hb)
  clear ht hn hten hck b1 HL1 HL2 h29
  unfold Reads
  go_enter Tryd.func21, Tryd.ntmps21
  go_wp2
  refine RegS.region (BelS w) (by kernel_rfl) (by kernel_rfl) HSD.out ?_
  haveI : Nonempty (RegS.In (BelS w)) := ⟨⟨_, HSD.out⟩⟩
  repeat (first | go_big_quiet_step ((first | (go_at_call 36; with_reducible exact RegS.call (G1.out _) (fun e w' he => ⟨he.1, he.2 ▸ RegS.In.h _⟩)) | (go_at_call 36; with_reducible exact RegS.call (G2.out _) (fun e w' he => ⟨he.1, he.2 ▸ RegS.In.h _⟩)) | (go_at_call 35; with_reducible exact RegS.call (HTO.out _ (RegS.In.h _)) (fun e w' he => ⟨he.1, SK.out _ _ (RegS.In.h _) he.2⟩)))) | quiet_step (fail))
  refine wpQuiet_nil ?_
  intro wz hw'
  obtain ⟨⟨wq, hS⟩, hw''⟩ := hw'
  subst hw''
  have HB : Hid (Below w.heap.size w wz) := Lib.hid hS
  clear hS
  cases ok with
  | false =>
    have HNO : Hid (∀ t, ¬ F3 l t) := Lib.hid (fun t' h => by have := HRD.out t' h; simp at this)
    go_wp2
    go_ret2
    exact ⟨Or.inr ⟨HNO.out, rfl⟩, HB.out⟩
  | true =>
    have HI := Lib.hid (HIN.out rfl).1
    have HDD := Lib.hid (HFD.out t wz HI.out HB.out)
    go_wp2_with (fail)
    go_at_call 39
    refine HDD.out.mono ?_
    rintro e w2 ⟨y, m, d, hcv, rfl, hb2⟩
    have HB2 := Lib.hid (Base.then_below HB.out hb2)
    have HCV := Lib.hid hcv
    clear hb2 hcv
    by_cases he : form3 t y m d = l
    · have HY := Lib.hid (HF.out t HI.out y m d HCV.out he.symm)
      subst he
      go_wp2
      go_ret2
      exact ⟨Or.inl ⟨t, HY.out, rfl⟩, HB2.out⟩
    · have HNO : Hid (∀ t, ¬ F3 l t) := Lib.hid (fun t' h => by
        have := HRD.out t' h
        have e2 : t = t' := by simpa using this
        subst e2
        exact he (HFX.out _ y m d h HCV.out).symm)
      have hq : (form3 t y m d == l) = false := by simpa using he
      generalize form3 t y m d = fz at hq
      clear he
      go_wp2
      go_ret2
      exact ⟨Or.inr ⟨HNO.out, rfl⟩, HB2.out⟩

set_option maxRecDepth 1000000 in
set_option maxHeartbeats 4000000 in
theorem impl_second (l : List UInt8) (w : World) (hl : l.length ≤ 67108864) (ht : Mds w) (hn : Names w) (hten : Fmt.Tens w) :
    Calls Tryd.prog 20 #[.string ⟨l.toArray⟩] w (Reads (F2 l) w) := by
  have hsz : (⟨l.toArray⟩ : ByteArray).size = l.length := by simp [ByteArray.size]
  by_cases h24 : (l.length : Int) - 24 < 0
  case pos =>
    have HNO : Hid (∀ t, ¬ F2 l t) := Lib.hid (fun t h => by have := (f2_read h).1.1; omega)
    go_enter Tryd.func20, Tryd.ntmps20
    go_wp2
    go_ret2
    exact ⟨Or.inr ⟨HNO.out, rfl⟩, Below.refl _ _⟩
  obtain ⟨k, hk⟩ : ∃ k, l.length = k + 24 := ⟨l.length - 24, by omega⟩
  have hkk : l.length - 24 = k := by omega
  have HRD := Lib.hid (fun t (h : F2 l t) => (f2_read h).2)
  rw [hkk] at HRD
  have hrl : (l.drop k).length = 24 := by simp; omega
  have er : (⟨l.toArray⟩ : ByteArray).extract k (k + 24) = ⟨(l.drop k).toArray⟩ := by rw [ext_l, List.take_of_length_le (by simp; omega)]
  obtain ⟨r, herl⟩ : ∃ r, l.drop k = r := ⟨_, rfl⟩
  rw [herl] at HRD hrl er
  have hck : ((r.drop 12).take 8).length = 8 := by simp; omega
  have b1 := loose_bd ((r.drop 9).take 2)
  rw [show ((r.drop 9).take 2).length = 2 by simp; omega] at b1
  have hfb := full_bd b1.1 (show loose ((r.drop 9).take 2) ≤ 99 by omega)
  have HIN := Lib.hid (fun h => tof_in (y := full (loose ((r.drop 9).take 2))) (d := loose ((r.drop 2).take 2)) (mo := (r.drop 5).take 3) hck h)
  have HL1 := Lib.hid (fun W => loose_l ((r.drop 9).take 2) W (by simp; omega))
  have HFU := Lib.hid (fun W => impl_full (loose ((r.drop 9).take 2)) W b1.1 (by omega))
  have HL2 := Lib.hid (fun W => loose_l ((r.drop 2).take 2) W (by simp; omega))
  have HTO := Lib.hid (fun W (hb : Below w.heap.size w W) => impl_tof (full (loose ((r.drop 9).take 2))) ((r.drop 5).take 3) (loose ((r.drop 2).take 2)) ((r.drop 12).take 8) W (Go.WalkArith.wf_i64 ⟨by omega, by omega⟩) hck (mds_below ht hb) (names_below hn hb))
  have HFD := Lib.hid (fun t W (h : InT t) (hb : Below w.heap.size w W) => impl_long t W h.1 h.2 (mds_below ht hb) (names_below hn hb) (Fmt.tens_below hten hb))
  have hfd : (if loose ((r.drop 9).take 2) < 70 then 2000 + loose ((r.drop 9).take 2) else 1900 + loose ((r.drop 9).take 2)) = full (loose ((r.drop 9).take 2)) := rfl
  rw [hfd] at HFU
  clear hfd hfb
  have e1 : (⟨r.toArray⟩ : ByteArray).extract 9 11 = ⟨((r.drop 9).take 2).toArray⟩ := by rw [ext_l]
  have e2 : (⟨r.toArray⟩ : ByteArray).extract 5 8 = ⟨((r.drop 5).take 3).toArray⟩ := by rw [ext_l]
  have e3 : (⟨r.toArray⟩ : ByteArray).extract 2 4 = ⟨((r.drop 2).take 2).toArray⟩ := by rw [ext_l]
  have e4 : (⟨r.toArray⟩ : ByteArray).extract 12 20 = ⟨((r.drop 12).take 8).toArray⟩ := by rw [ext_l]
  have hszr : (⟨r.toArray⟩ : ByteArray).size = 24 := by simpa [ByteArray.size] using hrl
  rw [hk] at hsz
  unfold TofEnd at HTO
  unfold Dated2 at HFD
  have HF := Lib.hid (fun t (h : InT t) y m d (hc : CV (t / 86400) y m d) (hy : y ≤ 2069) (e : l = form2 t y m d) => (⟨h, y, m, d, hc, hy, e⟩ : F2 l t))
  have HFX : Hid (∀ t y m d, F2 l t → CV (t / 86400) y m d → l = form2 t y m d) := Lib.hid (fun t y m d ⟨_, y', m', d', hc', _, e⟩ hc => by obtain ⟨rfl, rfl, rfl⟩ := cv_uniq hc hc'; exact e)
  have HYR := Lib.hid (fun (hok : (tof (full (loose ((r.drop 9).take 2))) ((r.drop 5).take 3) (loose ((r.drop 2).take 2)) ((r.drop 12).take 8)).2 = true) y m d hcv e => f2_year (l := l) (r := r) (y := y) (m := m) (d := d) (by rw [hkk]; exact herl) hck rfl hok hcv e)
  generalize (r.drop 9).take 2 = x1 at HL1 HFU e1 b1 HTO HIN HRD HYR
  generalize (r.drop 5).take 3 = x2 at e2 HTO HIN HRD HYR
  generalize (r.drop 2).take 2 = x3 at HL2 e3 HTO HIN HRD HYR
  generalize (r.drop 12).take 8 = x4 at e4 HTO HIN HRD HYR
  generalize loose x1 = n1 at HL1 HFU HTO HIN HRD HYR
  generalize full n1 = n2 at HFU HTO HIN HRD HYR
  generalize loose x3 = n3 at HL2 HTO HIN HRD HYR
  generalize tof n2 x2 n3 x4 = p at HTO HIN HRD HYR
  obtain ⟨t, ok⟩ := p
  simp only at HTO HIN HYR
  have hl29 : (l.length : Int) = (k : Int) + 24 := by omega
  have HSD : Hid (BelS w w.drew) := Lib.hid (Rec.below_drew (Below.refl _ _))
  have G1 : Hid (∀ u : RegS.In (BelS w), Calls Tryd.prog 36 #[.string ⟨x1.toArray⟩] u.w fun e w' => e = .returned (.int .i64 n1) ∧ u.w = w') := Lib.hid (fun u => HL1.out u.w)
  have G2 : Hid (∀ u : RegS.In (BelS w), Calls Tryd.prog 36 #[.string ⟨x3.toArray⟩] u.w fun e w' => e = .returned (.int .i64 n3) ∧ u.w = w') := Lib.hid (fun u => HL2.out u.w)
  have G3 : Hid (∀ u : RegS.In (BelS w), Calls Tryd.prog 37 #[.int .i64 n1] u.w fun e w' => e = .returned (.int .i64 n2) ∧ u.w = w') := Lib.hid (fun u => HFU.out u.w)
  have SK : Hid (∀ w0 w1' : World, BelS w w0 → Below w0.heap.size w0 w1' → BelS w w1') := Lib.hid (fun _ _ h hb => bels_call h hb)
  clear ht hn hten hck b1 HL1 HL2 herl hkk h24 hrl hk
  unfold Reads
  go_enter Tryd.func20, Tryd.ntmps20
  go_wp2
  refine RegS.region (BelS w) (by kernel_rfl) (by kernel_rfl) HSD.out ?_
  haveI : Nonempty (RegS.In (BelS w)) := ⟨⟨_, HSD.out⟩⟩
  repeat (first | go_big_quiet_step ((first | (go_at_call 36; with_reducible exact RegS.call (G1.out _) (fun e w' he => ⟨he.1, he.2 ▸ RegS.In.h _⟩)) | (go_at_call 36; with_reducible exact RegS.call (G2.out _) (fun e w' he => ⟨he.1, he.2 ▸ RegS.In.h _⟩)) | (go_at_call 37; with_reducible exact RegS.call (G3.out _) (fun e w' he => ⟨he.1, he.2 ▸ RegS.In.h _⟩)) | (go_at_call 35; with_reducible exact RegS.call (HTO.out _ (RegS.In.h _)) (fun e w' he => ⟨he.1, SK.out _ _ (RegS.In.h _) he.2⟩)))) | quiet_step (fail))
  refine wpQuiet_nil ?_
  intro wz hw'
  obtain ⟨⟨wq, hS⟩, hw''⟩ := hw'
  subst hw''
  have HB : Hid (Below w.heap.size w wz) := Lib.hid hS
  clear hS
  cases ok with
  | false =>
    have HNO : Hid (∀ t, ¬ F2 l t) := Lib.hid (fun t' h => by have := HRD.out t' h; simp at this)
    go_wp2
    go_ret2
    exact ⟨Or.inr ⟨HNO.out, rfl⟩, HB.out⟩
  | true =>
    have HI := Lib.hid (HIN.out rfl).1
    have HDD := Lib.hid (HFD.out t wz HI.out HB.out)
    go_wp2_with (fail)
    go_at_call 38
    refine HDD.out.mono ?_
    rintro e w2 ⟨y, m, d, hcv, rfl, hb2⟩
    have HB2 := Lib.hid (Base.then_below HB.out hb2)
    have HCV := Lib.hid hcv
    clear hb2 hcv
    by_cases he : form2 t y m d = l
    · have HY := Lib.hid (HF.out t HI.out y m d HCV.out (HYR.out (by trivial) y m d HCV.out he.symm) he.symm)
      subst he
      go_wp2
      go_ret2
      exact ⟨Or.inl ⟨t, HY.out, rfl⟩, HB2.out⟩
    · have HNO : Hid (∀ t, ¬ F2 l t) := Lib.hid (fun t' h => by
        have := HRD.out t' h
        have e2 : t = t' := by simpa using this
        subst e2
        exact he (HFX.out _ y m d h HCV.out).symm)
      have hq : (form2 t y m d == l) = false := by simpa using he
      generalize form2 t y m d = fz at hq
      clear he
      go_wp2
      go_ret2
      exact ⟨Or.inr ⟨HNO.out, rfl⟩, HB2.out⟩
end Go.Proofs.YtilephkbcikfbaaDoor.Dt

/-
  CONTRACT of the program's ParseDate; nothing that was there before is changed.
-/
namespace Go.Proofs.YtilephkbcikfbaaDoor.Dt
open Go Go.RowKit
set_option linter.unusedVariables false
set_option maxRecDepth 1000000

/-- The text is a date of this time. -/
def FA (l : List UInt8) (t : Int) : Prop := F1 l t ∨ F2 l t ∨ F3 l t
theorem fa_uniq {l : List UInt8} {t t' : Int} (h : FA l t) (h' : FA l t') : t = t' := by
  rcases h with h | h | h <;> rcases h' with h' | h' | h'
  · have a := (f1_read h).2; have b := (f1_read h').2; rw [a] at b; simpa using b
  · have a := (f1_read h).1; have b := (f2_read h').1.1; omega
  · have a := (f1_read h).1; have b := (f3_read h').1; omega
  · have a := (f2_read h).1.1; have b := (f1_read h').1; omega
  · have a := (f2_read h).2; have b := (f2_read h').2; rw [a] at b; simpa using b
  · have a := (f2_read h).1.1; have b := (f3_read h').1; omega
  · have a := (f3_read h).1; have b := (f1_read h').1; omega
  · have a := (f3_read h).1; have b := (f2_read h').1.1; omega
  · have a := (f3_read h).2; have b := (f3_read h').2; rw [a] at b; simpa using b
open Classical in
/-- What ParseDate answers, as a function. -/
noncomputable def pdate (l : List UInt8) : Int × Bool := if h : ∃ t, FA l t then (h.choose, true) else (0, false)
theorem pdate_yes {l : List UInt8} {t : Int} (h : FA l t) : pdate l = (t, true) := by
  have hx : ∃ t, FA l t := ⟨t, h⟩
  unfold pdate
  rw [dif_pos hx]
  exact Prod.ext (fa_uniq hx.choose_spec h) rfl
theorem pdate_no {l : List UInt8} (h : ∀ t, ¬ FA l t) : pdate l = (0, false) := by
  unfold pdate
  rw [dif_neg (fun ⟨t, ht⟩ => h t ht)]
theorem pdate_bd (l : List UInt8) : 0 ≤ (pdate l).1 ∧ (pdate l).1 ≤ 4102444799 := by
  by_cases h : ∃ t, FA l t
  · obtain ⟨t, ht⟩ := h
    rw [pdate_yes ht]
    rcases ht with h | h | h
    · exact h.1
    · exact h.1
    · exact h.1
  · rw [pdate_no (fun t ht => h ⟨t, ht⟩)]; simp only; omega
theorem pdate_nil : pdate [] = (0, false) := by
  apply pdate_no
  rintro t (h | h | h)
  · have := (f1_read h).1; simp at this
  · have := (f2_read h).1.1; simp at this
  · have := (f3_read h).1; simp at this
def PdEnd (p : Int × Bool) (w : World) (e : Ending) (w' : World) : Prop := e = .returned (.tuple #[.int .i64 p.1, .bool p.2]) ∧ Below w.heap.size w w'

set_option maxHeartbeats 1000000 in
theorem impl_pdate (l : List UInt8) (w : World) (hl : l.length ≤ 67108864) (ht : Mds w) (hn : Names w) (hten : Fmt.Tens w) :
    Calls Tryd.prog 7 #[.string ⟨l.toArray⟩] w (PdEnd (pdate l) w) := by
  have H1 := Lib.hid (impl_first l w hl ht hn hten)
  have H2 := Lib.hid (fun W (hb : Below w.heap.size w W) => impl_second l W hl (mds_below ht hb) (names_below hn hb) (Fmt.tens_below hten hb))
  have H3 := Lib.hid (fun W (hb : Below w.heap.size w W) => impl_third l W hl (mds_below ht hb) (names_below hn hb) (Fmt.tens_below hten hb))
  have HY := Lib.hid (fun t h => pdate_yes (l := l) (t := t) h)
  have HN := Lib.hid (fun (a : ∀ t, ¬ F1 l t) (b : ∀ t, ¬ F2 l t) (c : ∀ t, ¬ F3 l t) => pdate_no (l := l) (fun t h => by rcases h with h | h | h; exact a t h; exact b t h; exact c t h))
  unfold Reads at H1 H2 H3
  clear ht hn hten
  unfold PdEnd
  generalize pdate l = p at HY HN ⊢
  go_enter Tryd.func7, Tryd.ntmps7
  go_wp2_with (fail)
  go_at_call 19
  refine H1.out.mono ?_
  rintro e w1 ⟨⟨t, hf, rfl⟩ | ⟨hno, rfl⟩, hb1⟩
  · have HE := Lib.hid (HY.out t (show FA l t from Or.inl hf))
    have HB := Lib.hid hb1
    clear hf hb1
    go_wp2
    go_ret2
    exact ⟨by rw [HE.out]; rfl, HB.out⟩
  · have HN1 := Lib.hid hno
    have HB := Lib.hid hb1
    clear hno hb1
    go_wp2_with (fail)
    go_at_call 20
    refine (H2.out _ HB.out).mono ?_
    rintro e w2 ⟨⟨t, hf, rfl⟩ | ⟨hno, rfl⟩, hb1⟩
    · have HE := Lib.hid (HY.out t (show FA l t from Or.inr (Or.inl hf)))
      have HB := Lib.hid (Base.then_below HB.out hb1)
      clear hf hb1
      go_wp2
      go_ret2
      exact ⟨by rw [HE.out]; rfl, HB.out⟩
    · have HN2 := Lib.hid hno
      have HB := Lib.hid (Base.then_below HB.out hb1)
      clear hno hb1
      go_wp2_with (fail)
      go_at_call 21
      refine (H3.out _ HB.out).mono ?_
      rintro e w3 ⟨⟨t, hf, rfl⟩ | ⟨hno, rfl⟩, hb1⟩
      · have HE := Lib.hid (HY.out t (show FA l t from Or.inr (Or.inr hf)))
        have HB := Lib.hid (Base.then_below HB.out hb1)
        clear hf hb1
        go_wp2
        go_ret2
        exact ⟨by rw [HE.out]; rfl, HB.out⟩
      · have HE := Lib.hid (HN.out HN1.out HN2.out hno)
        have HB := Lib.hid (Base.then_below HB.out hb1)
        clear hno hb1
        go_wp2
        go_ret2
        exact ⟨by rw [HE.out]; rfl, HB.out⟩
end Go.Proofs.YtilephkbcikfbaaDoor.Dt

/-
  CONTRACTS of the model's l3Two and l3Month; nothing that was there before is changed.
-/
namespace Go.Proofs.YtilephkbcikfbaaDoor.Dt
open Go Go.RowKit
set_option linter.unusedVariables false
set_option maxRecDepth 1000000

/-- The one world of a region that only reads. -/
def SelfS (w u : World) : Prop := u = w.drew
theorem ret_is {a b : Int} (h : a = b) : Ending.returned (.int .i64 a) = .returned (.int .i64 b) := by rw [h]
theorem lst_len (s : ByteArray) : s.data.toList.length = s.size := by rw [Array.length_toList]; rfl
theorem lst_at {s : ByteArray} {k : Nat} (h : k < s.size) : s.data.toList.getD k 0 = s[k] := by
  have hl : k < s.data.toList.length := by rw [lst_len]; exact h
  rw [List.getD_eq_getElem?_getD, List.getElem?_eq_getElem hl]; rfl

theorem smon_miss {n : List UInt8} (h : ∀ k, k < 12 → mnm k ≠ n) : monOf n = 0 := by
  have hm : n ∉ mons12 := by
    intro hm
    obtain ⟨k, hk, e⟩ := List.getElem_of_mem hm
    have hk12 : k < 12 := hk
    apply h k hk12
    unfold mnm
    rw [← e]
    simp [List.getD, List.getElem?_eq_getElem hk]
  unfold monOf
  rw [List.idxOf_eq_length hm]
  rfl
theorem smon_hit {k : Nat} (h : k < 12) : monOf (mnm k) = (k : Int) + 1 := by
  obtain ⟨a, b, c, e, h2⟩ := monOf_mnm h
  rw [e]; exact h2
theorem smon_bd (n : List UInt8) : 0 ≤ monOf n ∧ monOf n ≤ 12 := by unfold monOf; split <;> omega

end Go.Proofs.YtilephkbcikfbaaDoor.Dt
