/-
  CONTRACTS AND PLAIN FACTS, several texts in one; each says in its own words what it proves.
-/
import Derived.Test.YtjeihicjfgimdaaGreatDoorPartV
import Derived.Test.YtjeihicjfgimdaaGreatDoorPartW
import Derived.Test.YtjeihicjfgimdaaGreatDoorPartX
set_option linter.unusedSimpArgs false
set_option linter.unusedVariables false

/-
  CONTRACT of the model's ParseDate; nothing that was there before is changed.
-/
namespace Go.Proofs.YtjeihicjfgimdaaGreatDoor.Dt
open Go Go.RowKit
set_option linter.unusedVariables false
set_option maxRecDepth 1000000

theorem spec_two_at (l : List UInt8) (k : Nat) (hk : k + 2 ≤ l.length) (hs : l.length ≤ 67108864) (w : World) (p : Int) (hp : p = (k : Int)) :
    Calls Tryz.prog 99 #[.string ⟨l.toArray⟩, .int .i64 p] w fun e w' => e = .returned (.int .i64 (tw l k)) ∧ Below w.heap.size w w' := by subst hp; exact spec_two l k w hk hs
theorem spec_mon_at (l : List UInt8) (k : Nat) (hk : k + 3 ≤ l.length) (hs : l.length ≤ 67108864) (w : World) (p : Int) (hp : p = (k : Int)) :
    Calls Tryz.prog 100 #[.string ⟨l.toArray⟩, .int .i64 p] w fun e w' => e = .returned (.int .i64 (monOf ((l.drop k).take 3))) ∧ Below w.heap.size w w' := by subst hp; exact spec_mon l k w hk hs
theorem spec_days_at (y m d : Int) (wy : (Lit.int .i64 y).wf = true) (w : World) (y' m' d' : Int) (h1 : y' = y) (h2 : m' = m) (h3 : d' = d) :
    Calls Tryz.prog 101 #[.int .i64 y', .int .i64 m', .int .i64 d'] w (Num (dof y m d) w) := by subst h1 h2 h3; exact spec_days _ _ _ w wy
theorem fa1 {l : List UInt8} {t : Int} (hl : l.length = 29) (h : FA l t) : ¬ dof (100 * tw l 12 + tw l 14) (monOf ((l.drop 8).take 3)) (tw l 5) < 0 ∧ t = 86400 * dof (100 * tw l 12 + tw l 14) (monOf ((l.drop 8).take 3)) (tw l 5) + 3600 * tw l 17 + 60 * tw l 20 + tw l 23 := by
  rcases h with h | h | h
  · obtain ⟨ht, y, m, d, hcv, e⟩ := h
    obtain ⟨a, b, c, f, g, i⟩ := cv_bd hcv
    obtain ⟨_, ⟨_, q2, _, _⟩, r1, r3, r4⟩ := read1 ht a b c f g i e
    rw [r1, q2, r3, dof_cv hcv]
    unfold clt at r4
    have h0 := ht.1
    exact ⟨by omega, by have r4' : 3600 * tw l 17 + 60 * tw l 20 + tw l 23 = t % 86400 := r4; omega⟩
  · have := (f2_read h).1.1; omega
  · have := (f3_read h).1; omega
theorem fa3 {l : List UInt8} {t : Int} (hl : l.length = 24) (h : FA l t) : ¬ dof (100 * tw l 20 + tw l 22) (monOf ((l.drop 4).take 3)) (dtw l) < 0 ∧ t = 86400 * dof (100 * tw l 20 + tw l 22) (monOf ((l.drop 4).take 3)) (dtw l) + 3600 * tw l 11 + 60 * tw l 14 + tw l 17 := by
  rcases h with h | h | h
  · have := (f1_read h).1; omega
  · have := (f2_read h).1.1; omega
  · obtain ⟨ht, y, m, d, hcv, e⟩ := h
    obtain ⟨a, b, c, f, g, i⟩ := cv_bd hcv
    obtain ⟨_, ⟨_, q2, _, _⟩, r1, r3, r4⟩ := read3 ht a b c f g i e
    rw [r1, q2, r3, dof_cv hcv]
    unfold clt at r4
    have h0 := ht.1
    exact ⟨by omega, by have r4' : 3600 * tw l 11 + 60 * tw l 14 + tw l 17 = t % 86400 := r4; omega⟩
def yr2 (q : Int) : Int := if 1900 + q < 1970 then 1900 + q + 100 else 1900 + q
theorem yr2_full (q : Int) : yr2 q = full q := by unfold yr2 full; split <;> split <;> omega
theorem yr2_bd {q : Int} (h0 : -1 ≤ q) (h1 : q ≤ 99) : 1970 ≤ yr2 q ∧ yr2 q ≤ 2069 := by unfold yr2; split <;> omega
theorem fa2 {l : List UInt8} {t : Int} {k : Nat} (hl : l.length = k + 24) (hl2 : 30 ≤ l.length ∧ l.length ≤ 33) (h : FA l t) : ¬ dof (yr2 (tw l (k + 9))) (monOf ((l.drop (k + 5)).take 3)) (tw l (k + 2)) < 0 ∧ t = 86400 * dof (yr2 (tw l (k + 9))) (monOf ((l.drop (k + 5)).take 3)) (tw l (k + 2)) + 3600 * tw l (k + 12) + 60 * tw l (k + 15) + tw l (k + 18) := by
  rcases h with h | h | h
  · have := (f1_read h).1; omega
  · obtain ⟨ht, y, m, d, hcv, hy, e⟩ := h
    obtain ⟨a, b, c, f, g, i⟩ := cv_bd hcv
    obtain ⟨_, ⟨_, q2, _, _⟩, r1, r3, r4⟩ := read2 ht a b c f g i e
    rw [show l.length - 24 = k by omega, List.drop_drop] at q2
    rw [show l.length - 15 = k + 9 by omega] at r1
    rw [show l.length - 22 = k + 2 by omega] at r3
    rw [show l.length - 12 = k + 12 by omega] at r4
    rw [r1, q2, r3, yr2_full, full_mod a hy, dof_cv hcv]
    unfold clt at r4
    have h0 := ht.1
    exact ⟨by omega, by have r4' : 3600 * tw l (k + 12) + 60 * tw l (k + 15) + tw l (k + 18) = t % 86400 := r4; omega⟩
  · have := (f3_read h).1; omega
theorem hit1 {l : List UInt8} {t y m d : Int} (hl : l.length = 29) (ht : InT t) (hcv : CV (t / 86400) y m d) (h : l = form1 t y m d ∨ l = form2 t y m d ∨ l = form3 t y m d) : FA l t := by
  obtain ⟨a, b, c, f, g, i⟩ := cv_bd hcv
  rcases h with e | e | e
  · exact Or.inl ⟨ht, y, m, d, hcv, e⟩
  · have := (read2 ht a b c f g i e).1; omega
  · have := (read3 ht a b c f g i e).1; omega
theorem hit3 {l : List UInt8} {t y m d : Int} (hl : l.length = 24) (ht : InT t) (hcv : CV (t / 86400) y m d) (h : l = form1 t y m d ∨ l = form2 t y m d ∨ l = form3 t y m d) : FA l t := by
  obtain ⟨a, b, c, f, g, i⟩ := cv_bd hcv
  rcases h with e | e | e
  · have := (read1 ht a b c f g i e).1; omega
  · have := (read2 ht a b c f g i e).1; omega
  · exact Or.inr (Or.inr ⟨ht, y, m, d, hcv, e⟩)
theorem hit2 {l : List UInt8} {t y m d : Int} {k : Nat} (hl : l.length = k + 24) (hl2 : 30 ≤ l.length ∧ l.length ≤ 33) (ht : InT t) (hcv : CV (t / 86400) y m d) (hne : ¬ dof (yr2 (tw l (k + 9))) (monOf ((l.drop (k + 5)).take 3)) (tw l (k + 2)) < 0)
    (hd : t = 86400 * dof (yr2 (tw l (k + 9))) (monOf ((l.drop (k + 5)).take 3)) (tw l (k + 2)) + 3600 * tw l (k + 12) + 60 * tw l (k + 15) + tw l (k + 18)) (h : l = form1 t y m d ∨ l = form2 t y m d ∨ l = form3 t y m d) : FA l t := by
  obtain ⟨a, b, c, f, g, i⟩ := cv_bd hcv
  rcases h with e | e | e
  · have := (read1 ht a b c f g i e).1; omega
  · refine Or.inr (Or.inl ⟨ht, y, m, d, hcv, ?_, e⟩)
    obtain ⟨_, ⟨_, q2, _, _⟩, r1, r3, r4⟩ := read2 ht a b c f g i e
    rw [show l.length - 24 = k by omega, List.drop_drop] at q2
    rw [show l.length - 15 = k + 9 by omega] at r1
    rw [show l.length - 22 = k + 2 by omega] at r3
    rw [show l.length - 12 = k + 12 by omega] at r4
    unfold clt at r4
    rw [r1, q2, r3] at hne hd
    have r4' : 3600 * tw l (k + 12) + 60 * tw l (k + 15) + tw l (k + 18) = t % 86400 := r4
    have hcv2 := dof_pos hne
    have hyb := yr2_bd (q := y % 100) (by omega) (by omega)
    have h86 : dof (yr2 (y % 100)) m d = t / 86400 := by omega
    rw [h86] at hcv2
    have := (cv_uniq hcv hcv2).1
    omega
  · have := (read3 ht a b c f g i e).1; omega
def fm (t y m d : Int) : Nat → List UInt8
  | 0 => form1 t y m d
  | 1 => form2 t y m d
  | _ => form3 t y m d
theorem fm_three {l : List UInt8} {t y m d : Int} {k : Nat} (h : fm t y m d k = l) : l = form1 t y m d ∨ l = form2 t y m d ∨ l = form3 t y m d := by
  match k, h with
  | 0, h => exact Or.inl h.symm
  | 1, h => exact Or.inr (Or.inl h.symm)
  | k + 2, h => exact Or.inr (Or.inr h.symm)
theorem fm_all {l : List UInt8} {t y m d : Int} (h : ∀ j, j < 3 → fm t y m d j ≠ l) : ¬ (l = form1 t y m d ∨ l = form2 t y m d ∨ l = form3 t y m d) := by
  rintro (e | e | e)
  · exact h 0 (by omega) e.symm
  · exact h 1 (by omega) e.symm
  · exact h 2 (by omega) e.symm
/-- Who has one of the forms at the only time that is read has the one of that time. -/
theorem fa_forms {l : List UInt8} {t y m d : Int} (hcv : CV (t / 86400) y m d) (h : FA l t) : l = form1 t y m d ∨ l = form2 t y m d ∨ l = form3 t y m d := by
  rcases h with ⟨_, y', m', d', hc', e⟩ | ⟨_, y', m', d', hc', _, e⟩ | ⟨_, y', m', d', hc', e⟩
  all_goals obtain ⟨rfl, rfl, rfl⟩ := cv_uniq hcv hc'
  · exact Or.inl e
  · exact Or.inr (Or.inl e)
  · exact Or.inr (Or.inr e)

theorem fa_in {l : List UInt8} {t : Int} (h : FA l t) : InT t := by
  rcases h with h | h | h
  · exact h.1
  · exact h.1
  · exact h.1
set_option maxRecDepth 1000000 in
set_option maxHeartbeats 8000000 in
theorem spec_pd29 (l : List UInt8) (h29 : l.length = 29) (hs : l.length ≤ 67108864) (w : World) : Calls Tryz.prog 65 #[.string ⟨l.toArray⟩] w (PdEnd (pdate l) w) := by
  have hsz : (⟨l.toArray⟩ : ByteArray).size = l.length := by simp [ByteArray.size]
  have HB := Lib.hid (Below.refl w.heap.size w)
  have HY := Lib.hid (fun t h => pdate_yes (l := l) (t := t) h)
  have HNO := Lib.hid (pdate_no (l := l))
  have HRD := Lib.hid (fun t (h : FA l t) => fa1 h29 h)
  have HHH : Hid (∀ t y m d, InT t → CV (t / 86400) y m d → ¬ dof (100 * tw l (12) + tw l (14)) (monOf ((l.drop (8)).take 3)) (tw l (5)) < 0 → t = 86400 * dof (100 * tw l (12) + tw l (14)) (monOf ((l.drop (8)).take 3)) (tw l (5)) + 3600 * tw l (17) + 60 * tw l (20) + tw l (23) → (l = form1 t y m d ∨ l = form2 t y m d ∨ l = form3 t y m d) → FA l t) := Lib.hid (fun t y m d h1 h2 h3 h4 h5 => hit1 h29 h1 h2 h5)
  have C0 := Lib.hid (fun W p => spec_two_at l (12) (by omega) hs W p)
  have b0 := tw_bd l (12)
  have C1 := Lib.hid (fun W p => spec_two_at l (14) (by omega) hs W p)
  have b1 := tw_bd l (14)
  have C2 := Lib.hid (fun W p => spec_two_at l (5) (by omega) hs W p)
  have b2 := tw_bd l (5)
  have C3 := Lib.hid (fun W p => spec_two_at l (17) (by omega) hs W p)
  have b3 := tw_bd l (17)
  have C4 := Lib.hid (fun W p => spec_two_at l (20) (by omega) hs W p)
  have b4 := tw_bd l (20)
  have C5 := Lib.hid (fun W p => spec_two_at l (23) (by omega) hs W p)
  have b5 := tw_bd l (23)
  have CM := Lib.hid (fun W p => spec_mon_at l (8) (by omega) hs W p)
  have HD := Lib.hid (fun W => spec_days_at (100 * tw l (12) + tw l (14)) (monOf ((l.drop (8)).take 3)) (tw l (5)) (Go.WalkArith.wf_i64 ⟨by omega, by omega⟩) W)
  have hdb := dof_bd (100 * tw l (12) + tw l (14)) (monOf ((l.drop (8)).take 3)) (tw l (5))
  unfold Num at HD
  generalize dof (100 * tw l (12) + tw l (14)) (monOf ((l.drop (8)).take 3)) (tw l (5)) = day at HD hdb HRD HHH
  generalize monOf ((l.drop (8)).take 3) = mm at CM HD
  generalize tw l (12) = a0 at *
  obtain ⟨b00, b01⟩ := b0
  generalize tw l (14) = a1 at *
  obtain ⟨b10, b11⟩ := b1
  generalize tw l (5) = a2 at *
  obtain ⟨b20, b21⟩ := b2
  generalize tw l (17) = a3 at *
  obtain ⟨b30, b31⟩ := b3
  generalize tw l (20) = a4 at *
  obtain ⟨b40, b41⟩ := b4
  generalize tw l (23) = a5 at *
  obtain ⟨b50, b51⟩ := b5
  obtain ⟨db0, db1⟩ := hdb
  unfold PdEnd
  generalize hpd : pdate l = pd at HY HNO ⊢
  clear hpd
  have hl29 : (l.length : Int) = 29 := by omega
  go_enter Tryz.func65, Tryz.ntmps65
  go_wp2_with (fail)
  go_at_call 99
  refine (C0.out _ _ (by omega)).mono ?_
  rintro e w1 ⟨rfl, hb1⟩
  have HB := Lib.hid (Base.then_below HB.out hb1)
  clear hb1
  go_wp2_with (fail)
  go_at_call 99
  refine (C1.out _ _ (by omega)).mono ?_
  rintro e w2 ⟨rfl, hb1⟩
  have HB := Lib.hid (Base.then_below HB.out hb1)
  clear hb1
  go_wp2_with (fail)
  go_at_call 100
  refine (CM.out _ _ (by omega)).mono ?_
  rintro e w3 ⟨rfl, hb1⟩
  have HB := Lib.hid (Base.then_below HB.out hb1)
  clear hb1
  go_wp2_with (fail)
  go_at_call 99
  refine (C2.out _ _ (by omega)).mono ?_
  rintro e w4 ⟨rfl, hb1⟩
  have HB := Lib.hid (Base.then_below HB.out hb1)
  clear hb1
  go_wp2_with (fail)
  go_at_call 101
  refine (HD.out _ _ _ _ (by omega) (by omega) (by omega)).mono ?_
  rintro e w5 ⟨rfl, hb1⟩
  have HB := Lib.hid (Base.then_below HB.out hb1)
  clear hb1
  by_cases hneg : day < 0
  · have HE := Lib.hid (HNO.out (fun t h => by have := (HRD.out t h).1; omega))
    go_wp2
    go_ret2
    exact ⟨by rw [HE.out]; rfl, HB.out⟩
  have HNG : Hid (¬ day < 0) := Lib.hid hneg
  go_wp2_with (fail)
  go_at_call 99
  refine (C3.out _ _ (by omega)).mono ?_
  rintro e w6 ⟨rfl, hb1⟩
  have HB := Lib.hid (Base.then_below HB.out hb1)
  clear hb1
  go_wp2_with (fail)
  go_at_call 99
  refine (C4.out _ _ (by omega)).mono ?_
  rintro e w7 ⟨rfl, hb1⟩
  have HB := Lib.hid (Base.then_below HB.out hb1)
  clear hb1
  go_wp2_with (fail)
  go_at_call 99
  refine (C5.out _ _ (by omega)).mono ?_
  rintro e w8 ⟨rfl, hb1⟩
  have HB := Lib.hid (Base.then_below HB.out hb1)
  clear hb1
  by_cases hin : 0 ≤ (86400 * day + 3600 * a3 + 60 * a4 + a5) ∧ (86400 * day + 3600 * a3 + 60 * a4 + a5) ≤ 4102444799
  case neg =>
    have HE := Lib.hid (HNO.out (fun t h => by
      have h1 := (HRD.out t h).2
      have h2 := fa_in h
      have h3 := h2.1
      have h4 := h2.2
      omega))
    have HOUT := Lib.hid (show (86400 * day + 3600 * a3 + 60 * a4 + a5) < 0 ∨ 4102444799 < (86400 * day + 3600 * a3 + 60 * a4 + a5) by omega)
    clear hin
    go_wp2_with (fail)
    go_at_call 64
    refine (NumDiv.in_no _ _ _ _ HOUT.out).mono ?_
    rintro e wn ⟨rfl, rfl⟩
    go_wp2
    go_ret2
    exact ⟨by rw [HE.out]; rfl, HB.out⟩
  obtain ⟨hT0, hT1⟩ := hin
  go_wp2_with (fail)
  go_at_call 64
  refine (NumDiv.in_yes _ _ _ _ hT0 hT1).mono ?_
  rintro e wn ⟨rfl, rfl⟩
  go_wp2_with (fail)
  go_at_call 102
  refine (spec_forms (86400 * day + 3600 * a3 + 60 * a4 + a5) _ hT0 hT1).mono ?_
  rintro e wf ⟨y, m, d, g, hcv, rfl, ⟨c0, c1, c2⟩, hb1⟩
  have HB := Lib.hid (Base.then_below HB.out hb1)
  have HHIT := Lib.hid (fun j (h : fm (86400 * day + 3600 * a3 + 60 * a4 + a5) y m d j = l) => HY.out (86400 * day + 3600 * a3 + 60 * a4 + a5) (HHH.out (86400 * day + 3600 * a3 + 60 * a4 + a5) y m d ⟨hT0, hT1⟩ hcv HNG.out rfl (fm_three h)))
  have HMIS := Lib.hid (fun (h : ∀ j, j < 3 → fm (86400 * day + 3600 * a3 + 60 * a4 + a5) y m d j ≠ l) => HNO.out (fun t ht => by
    have e := (HRD.out t ht).2
    subst e
    exact fm_all h (fa_forms hcv ht)))
  have c0' : wf.cell? ⟨g, 0, none⟩ = some (.string ⟨(fm (86400 * day + 3600 * a3 + 60 * a4 + a5) y m d 0).toArray⟩) := c0
  have c1' : wf.cell? ⟨g, 1, none⟩ = some (.string ⟨(fm (86400 * day + 3600 * a3 + 60 * a4 + a5) y m d 1).toArray⟩) := c1
  have c2' : wf.cell? ⟨g, 2, none⟩ = some (.string ⟨(fm (86400 * day + 3600 * a3 + 60 * a4 + a5) y m d 2).toArray⟩) := c2
  clear c0 c1 c2 hb1 hcv HRD HHH HNO HY
  generalize fm (86400 * day + 3600 * a3 + 60 * a4 + a5) y m d = f at *
  go_wp2
  go_loop [12] (fun i => ∃ k : Nat, k ≤ 3 ∧ i = .int .i64 k ∧ ∀ j, j < k → f j ≠ l) (fun i => 3 - (intOf i).toNat)
  case atStart => exact ⟨0, by omega, rfl, fun j hj => absurd hj (by omega)⟩
  case round =>
    obtain ⟨k, hk, rfl, hno⟩ := hrel
    have HN := Lib.hid hno
    clear hno
    have hkc : k = 0 ∨ k = 1 ∨ k = 2 ∨ k = 3 := by omega
    by_cases h3 : k = 3
    · subst h3
      have HE := Lib.hid (HMIS.out (fun j hj => HN.out j hj))
      clear hkc
      go_wp2
      go_ret2
      exact ⟨by rw [HE.out]; rfl, HB.out⟩
    have HNN : Hid (f k ≠ l → ∀ j, j < k + 1 → f j ≠ l) := Lib.hid (fun e j hj => by
      rcases Nat.lt_or_ge j k with h' | h'
      · exact HN.out j h'
      · have : j = k := by omega
        subst this; exact e)
    by_cases e : f k = l
    · have HE := Lib.hid (HHIT.out k e)
      have HEE := Lib.hid e
      clear HNN HMIS HHIT
      rcases hkc with rfl | rfl | rfl | rfl
      · obtain rfl := HEE.out
        go_wp2
        go_ret2
        exact ⟨by rw [HE.out]; rfl, HB.out⟩
      · obtain rfl := HEE.out
        go_wp2
        go_ret2
        exact ⟨by rw [HE.out]; rfl, HB.out⟩
      · obtain rfl := HEE.out
        go_wp2
        go_ret2
        exact ⟨by rw [HE.out]; rfl, HB.out⟩
      · exact absurd rfl h3
    · have HE := Lib.hid (HNN.out e)
      have hq : (f k == l) = false := by simpa using e
      clear HNN e
      rcases hkc with rfl | rfl | rfl | rfl
      · go_wp2
        go_round
        case rel => exact ⟨1, by omega, rfl, HE.out⟩
        case measure => decide
      · go_wp2
        go_round
        case rel => exact ⟨2, by omega, rfl, HE.out⟩
        case measure => decide
      · go_wp2
        go_round
        case rel => exact ⟨3, by omega, rfl, HE.out⟩
        case measure => decide
      · exact absurd rfl h3
end Go.Proofs.YtjeihicjfgimdaaGreatDoor.Dt
