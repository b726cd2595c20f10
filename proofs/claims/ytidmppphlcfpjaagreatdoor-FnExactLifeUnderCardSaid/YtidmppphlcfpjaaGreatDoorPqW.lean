/-
  CONTRACTS AND PLAIN FACTS, several texts in one; each says in its own words what it proves.
-/
import Derived.Test.YtidmppphlcfpjaaGreatDoorPqV
import Derived.Test.YtidmppphlcfpjaaGreatDoorPqA
import Derived.LoopTactic
set_option linter.unusedSimpArgs false
set_option linter.unusedVariables false

/-
  CONTRACT of the model's ParseDate at texts of the other lengths, and at all.
-/
namespace Go.Proofs.YtidmppphlcfpjaaGreatDoor.Dt
open Go Go.RowKit
set_option linter.unusedVariables false
set_option maxRecDepth 1000000

theorem at8 {l : List UInt8} {k : Nat} (h : k < l.length) : (⟨l.toArray⟩ : ByteArray)[k]'(by simpa [ByteArray.size] using h) = l.getD k 0 := by
  rw [List.getD_eq_getElem?_getD, List.getElem?_eq_getElem h]; rfl
set_option maxRecDepth 1000000 in
set_option maxHeartbeats 1000000 in
theorem spec_pd24 (l : List UInt8) (h24 : l.length = 24) (hs : l.length ≤ 67108864) (w : World) : Calls Tryz.prog 77 #[.string ⟨l.toArray⟩] w (PdEnd (pdate l) w) := by
  have hsz : (⟨l.toArray⟩ : ByteArray).size = l.length := by simp [ByteArray.size]
  have HB := Lib.hid (Below.refl w.heap.size w)
  have HY := Lib.hid (fun t h => pdate_yes (l := l) (t := t) h)
  have HNO := Lib.hid (pdate_no (l := l))
  have HRD := Lib.hid (fun t (h : FA l t) => fa3 h24 h)
  have HHH : Hid (∀ t y m d, InT t → CV (t / 86400) y m d → ¬ dof (100 * tw l (20) + tw l (22)) (monOf ((l.drop (4)).take 3)) (dtw l) < 0 → t = 86400 * dof (100 * tw l (20) + tw l (22)) (monOf ((l.drop (4)).take 3)) (dtw l) + 3600 * tw l (11) + 60 * tw l (14) + tw l (17) → (l = form1 t y m d ∨ l = form2 t y m d ∨ l = form3 t y m d) → FA l t) := Lib.hid (fun t y m d h1 h2 h3 h4 h5 => hit3 h24 h1 h2 h5)
  have C0 := Lib.hid (fun W p => spec_two_at l (20) (by omega) hs W p)
  have b0 := tw_bd l (20)
  have C1 := Lib.hid (fun W p => spec_two_at l (22) (by omega) hs W p)
  have b1 := tw_bd l (22)
  have C2 := Lib.hid (fun W p => spec_two_at l (8) (by omega) hs W p)
  have b2 := tw_bd l (8)
  have C3 := Lib.hid (fun W p => spec_two_at l (11) (by omega) hs W p)
  have b3 := tw_bd l (11)
  have C4 := Lib.hid (fun W p => spec_two_at l (14) (by omega) hs W p)
  have b4 := tw_bd l (14)
  have C5 := Lib.hid (fun W p => spec_two_at l (17) (by omega) hs W p)
  have b5 := tw_bd l (17)
  have CM := Lib.hid (fun W p => spec_mon_at l (4) (by omega) hs W p)
  have g8 := at8 (l := l) (k := 8) (by omega)
  have g9 := at8 (l := l) (k := 9) (by omega)
  have hdtw : dtw l = if l.getD 8 0 = 32 then ((l.getD 9 0).toNat : Int) - 48 else tw l (8) := rfl
  have hb9 : (l.getD 9 0).toNat ≤ 255 := by have := (l.getD 9 0).toNat_lt; omega
  have hdtb : -48 ≤ dtw l ∧ dtw l ≤ 255 := by rw [hdtw]; split <;> omega
  have HD := Lib.hid (fun W => spec_days_at (100 * tw l (20) + tw l (22)) (monOf ((l.drop (4)).take 3)) (dtw l) (Go.WalkArith.wf_i64 ⟨by omega, by omega⟩) W)
  have hdb := dof_bd (100 * tw l (20) + tw l (22)) (monOf ((l.drop (4)).take 3)) (dtw l)
  unfold Num at HD
  generalize dof (100 * tw l (20) + tw l (22)) (monOf ((l.drop (4)).take 3)) (dtw l) = day at HD hdb HRD HHH
  generalize monOf ((l.drop (4)).take 3) = mm at CM HD
  generalize tw l (20) = a0 at *
  obtain ⟨b00, b01⟩ := b0
  generalize tw l (22) = a1 at *
  obtain ⟨b10, b11⟩ := b1
  generalize tw l (8) = a2 at *
  obtain ⟨b20, b21⟩ := b2
  generalize tw l (11) = a3 at *
  obtain ⟨b30, b31⟩ := b3
  generalize tw l (14) = a4 at *
  obtain ⟨b40, b41⟩ := b4
  generalize tw l (17) = a5 at *
  obtain ⟨b50, b51⟩ := b5
  obtain ⟨dt0, dt1⟩ := hdtb
  have HDT := Lib.hid hdtw
  clear hdtw
  generalize dtw l = dw at *
  obtain ⟨db0, db1⟩ := hdb
  unfold PdEnd
  generalize hpd : pdate l = pd at HY HNO ⊢
  clear hpd
  have hl24 : (l.length : Int) = 24 := by omega
  have hq24 : ((24 : Int) == 29) = false := by decide
  generalize l.getD 8 0 = c8 at *
  generalize l.getD 9 0 = c9 at *
  have hc8 : (c8.toNat : Int) ≤ 255 := by have := c8.toNat_lt; omega
  have hc9 : (c9.toNat : Int) ≤ 255 := by omega
  go_enter Tryz.func77, Tryz.ntmps77
  go_wp2_with (fail)
  go_at_call 103
  refine (C0.out _ _ (by omega)).mono ?_
  rintro e w1 ⟨rfl, hb1⟩
  have HB := Lib.hid (Base.then_below HB.out hb1)
  clear hb1
  go_wp2_with (fail)
  go_at_call 103
  refine (C1.out _ _ (by omega)).mono ?_
  rintro e w2 ⟨rfl, hb1⟩
  have HB := Lib.hid (Base.then_below HB.out hb1)
  clear hb1
  go_wp2_with (fail)
  go_at_call 104
  refine (CM.out _ _ (by omega)).mono ?_
  rintro e w3 ⟨rfl, hb1⟩
  have HB := Lib.hid (Base.then_below HB.out hb1)
  clear hb1
  go_wp2_with (fail)
  go_at_call 103
  refine (C2.out _ _ (by omega)).mono ?_
  rintro e w4 ⟨rfl, hb1⟩
  have HB := Lib.hid (Base.then_below HB.out hb1)
  clear hb1
  by_cases h8 : c8 = 32
  · have HDW : Hid (((c9.toNat : Nat) : Int) - 48 = dw) := Lib.hid (by rw [HDT.out, if_pos h8])
    have h8q : ((c8.toNat : Nat) : Int) = 32 := by rw [h8]; rfl
    clear h8
    go_wp2_with (fail)
    go_at_call 105
    refine (HD.out _ _ _ _ (by omega) (by omega) HDW.out).mono ?_
    rintro e w5 ⟨rfl, hb1⟩
    have HB := Lib.hid (Base.then_below HB.out hb1)
    clear hb1
    by_cases hneg : day < 0
    · have HE := Lib.hid (HNO.out (fun t h => by have := (HRD.out t h).1; omega))
      go_wp2
      go_ret2
      exact ⟨by rw [HE.out]; rfl, HB.out⟩
    have HNG : Hid (¬ day < 0) := Lib.hid hneg
    go_wp2_with (fail)
    go_at_call 103
    refine (C3.out _ _ (by omega)).mono ?_
    rintro e w6 ⟨rfl, hb1⟩
    have HB := Lib.hid (Base.then_below HB.out hb1)
    clear hb1
    go_wp2_with (fail)
    go_at_call 103
    refine (C4.out _ _ (by omega)).mono ?_
    rintro e w7 ⟨rfl, hb1⟩
    have HB := Lib.hid (Base.then_below HB.out hb1)
    clear hb1
    go_wp2_with (fail)
    go_at_call 103
    refine (C5.out _ _ (by omega)).mono ?_
    rintro e w8 ⟨rfl, hb1⟩
    have HB := Lib.hid (Base.then_below HB.out hb1)
    clear hb1
    by_cases hin : 0 ≤ (86400 * day + 3600 * a3 + 60 * a4 + a5) ∧ (86400 * day + 3600 * a3 + 60 * a4 + a5) ≤ 4102444799
    case neg =>
      have HE := Lib.hid (HNO.out (fun t h => by
        have h1 := (HRD.out t h).2
        have h2 := fa_in h
        have h3 := h2.1
        have h4 := h2.2
        omega))
      have HOUT := Lib.hid (show (86400 * day + 3600 * a3 + 60 * a4 + a5) < 0 ∨ 4102444799 < (86400 * day + 3600 * a3 + 60 * a4 + a5) by omega)
      clear hin
      go_wp2_with (fail)
      go_at_call 90
      refine (NumDiv.in_no _ _ _ _ HOUT.out).mono ?_
      rintro e wn ⟨rfl, rfl⟩
      go_wp2
      go_ret2
      exact ⟨by rw [HE.out]; rfl, HB.out⟩
    obtain ⟨hT0, hT1⟩ := hin
    go_wp2_with (fail)
    go_at_call 90
    refine (NumDiv.in_yes _ _ _ _ hT0 hT1).mono ?_
    rintro e wn ⟨rfl, rfl⟩
    go_wp2_with (fail)
    go_at_call 106
    refine (spec_forms (86400 * day + 3600 * a3 + 60 * a4 + a5) _ hT0 hT1).mono ?_
    rintro e wf ⟨y, m, d, g, hcv, rfl, ⟨c0, c1, c2⟩, hb1⟩
    have HB := Lib.hid (Base.then_below HB.out hb1)
    have HHIT := Lib.hid (fun j (h : fm (86400 * day + 3600 * a3 + 60 * a4 + a5) y m d j = l) => HY.out (86400 * day + 3600 * a3 + 60 * a4 + a5) (HHH.out (86400 * day + 3600 * a3 + 60 * a4 + a5) y m d ⟨hT0, hT1⟩ hcv HNG.out rfl (fm_three h)))
    have HMIS := Lib.hid (fun (h : ∀ j, j < 3 → fm (86400 * day + 3600 * a3 + 60 * a4 + a5) y m d j ≠ l) => HNO.out (fun t ht => by
      have e := (HRD.out t ht).2
      subst e
      exact fm_all h (fa_forms hcv ht)))
    have c0' : wf.cell? ⟨g, 0, none⟩ = some (.string ⟨(fm (86400 * day + 3600 * a3 + 60 * a4 + a5) y m d 0).toArray⟩) := c0
    have c1' : wf.cell? ⟨g, 1, none⟩ = some (.string ⟨(fm (86400 * day + 3600 * a3 + 60 * a4 + a5) y m d 1).toArray⟩) := c1
    have c2' : wf.cell? ⟨g, 2, none⟩ = some (.string ⟨(fm (86400 * day + 3600 * a3 + 60 * a4 + a5) y m d 2).toArray⟩) := c2
    clear c0 c1 c2 hb1 hcv HRD HHH HNO HY
    generalize fm (86400 * day + 3600 * a3 + 60 * a4 + a5) y m d = f at *
    go_wp2
    go_loop [12] (fun i => ∃ k : Nat, k ≤ 3 ∧ i = .int .i64 k ∧ ∀ j, j < k → f j ≠ l) (fun i => 3 - (intOf i).toNat)
    case atStart => exact ⟨0, by omega, rfl, fun j hj => absurd hj (by omega)⟩
    case round =>
      obtain ⟨k, hk, rfl, hno⟩ := hrel
      have HN := Lib.hid hno
      clear hno
      have hkc : k = 0 ∨ k = 1 ∨ k = 2 ∨ k = 3 := by omega
      by_cases h3 : k = 3
      · subst h3
        have HE := Lib.hid (HMIS.out (fun j hj => HN.out j hj))
        clear hkc
        go_wp2
        go_ret2
        exact ⟨by rw [HE.out]; rfl, HB.out⟩
      have HNN : Hid (f k ≠ l → ∀ j, j < k + 1 → f j ≠ l) := Lib.hid (fun e j hj => by
        rcases Nat.lt_or_ge j k with h' | h'
        · exact HN.out j h'
        · have : j = k := by omega
          subst this; exact e)
      by_cases e : f k = l
      · have HE := Lib.hid (HHIT.out k e)
        have HEE := Lib.hid e
        clear HNN HMIS HHIT
        rcases hkc with rfl | rfl | rfl | rfl
        · obtain rfl := HEE.out
          go_wp2
          go_ret2
          exact ⟨by rw [HE.out]; rfl, HB.out⟩
        · obtain rfl := HEE.out
          go_wp2
          go_ret2
          exact ⟨by rw [HE.out]; rfl, HB.out⟩
        · obtain rfl := HEE.out
          go_wp2
          go_ret2
          exact ⟨by rw [HE.out]; rfl, HB.out⟩
        · exact absurd rfl h3
      · have HE := Lib.hid (HNN.out e)
        have hq : (f k == l) = false := by simpa using e
        clear HNN e
        rcases hkc with rfl | rfl | rfl | rfl
        · go_wp2
          go_round
          case rel => exact ⟨1, by omega, rfl, HE.out⟩
          case measure => decide
        · go_wp2
          go_round
          case rel => exact ⟨2, by omega, rfl, HE.out⟩
          case measure => decide
        · go_wp2
          go_round
          case rel => exact ⟨3, by omega, rfl, HE.out⟩
          case measure => decide
        · exact absurd rfl h3
  · have HDW : Hid (a2 = dw) := Lib.hid (by rw [HDT.out, if_neg h8])
    have h8q : (((c8.toNat : Nat) : Int) == 32) = false := by
      rw [beq_eq_false_iff_ne]; intro e; exact h8 (UInt8.toNat_inj.1 (by have e2 : ((c8.toNat : Nat) : Int) = 32 := e; simp; omega))
    clear h8
    go_wp2_with (fail)
    go_at_call 105
    refine (HD.out _ _ _ _ (by omega) (by omega) HDW.out).mono ?_
    rintro e w5 ⟨rfl, hb1⟩
    have HB := Lib.hid (Base.then_below HB.out hb1)
    clear hb1
    by_cases hneg : day < 0
    · have HE := Lib.hid (HNO.out (fun t h => by have := (HRD.out t h).1; omega))
      go_wp2
      go_ret2
      exact ⟨by rw [HE.out]; rfl, HB.out⟩
    have HNG : Hid (¬ day < 0) := Lib.hid hneg
    go_wp2_with (fail)
    go_at_call 103
    refine (C3.out _ _ (by omega)).mono ?_
    rintro e w6 ⟨rfl, hb1⟩
    have HB := Lib.hid (Base.then_below HB.out hb1)
    clear hb1
    go_wp2_with (fail)
    go_at_call 103
    refine (C4.out _ _ (by omega)).mono ?_
    rintro e w7 ⟨rfl, hb1⟩
    have HB := Lib.hid (Base.then_below HB.out hb1)
    clear hb1
    go_wp2_with (fail)
    go_at_call 103
    refine (C5.out _ _ (by omega)).mono ?_
    rintro e w8 ⟨rfl, hb1⟩
    have HB := Lib.hid (Base.then_below HB.out hb1)
    clear hb1
    by_cases hin : 0 ≤ (86400 * day + 3600 * a3 + 60 * a4 + a5) ∧ (86400 * day + 3600 * a3 + 60 * a4 + a5) ≤ 4102444799
    case neg =>
      have HE := Lib.hid (HNO.out (fun t h => by
        have h1 := (HRD.out t h).2
        have h2 := fa_in h
        have h3 := h2.1
        have h4 := h2.2
        omega))
      have HOUT := Lib.hid (show (86400 * day + 3600 * a3 + 60 * a4 + a5) < 0 ∨ 4102444799 < (86400 * day + 3600 * a3 + 60 * a4 + a5) by omega)
      clear hin
      go_wp2_with (fail)
      go_at_call 90
      refine (NumDiv.in_no _ _ _ _ HOUT.out).mono ?_
      rintro e wn ⟨rfl, rfl⟩
      go_wp2
      go_ret2
      exact ⟨by rw [HE.out]; rfl, HB.out⟩
    obtain ⟨hT0, hT1⟩ := hin
    go_wp2_with (fail)
    go_at_call 90
    refine (NumDiv.in_yes _ _ _ _ hT0 hT1).mono ?_
    rintro e wn ⟨rfl, rfl⟩
    go_wp2_with (fail)
    go_at_call 106
    refine (spec_forms (86400 * day + 3600 * a3 + 60 * a4 + a5) _ hT0 hT1).mono ?_
    rintro e wf ⟨y, m, d, g, hcv, rfl, ⟨c0, c1, c2⟩, hb1⟩
    have HB := Lib.hid (Base.then_below HB.out hb1)
    have HHIT := Lib.hid (fun j (h : fm (86400 * day + 3600 * a3 + 60 * a4 + a5) y m d j = l) => HY.out (86400 * day + 3600 * a3 + 60 * a4 + a5) (HHH.out (86400 * day + 3600 * a3 + 60 * a4 + a5) y m d ⟨hT0, hT1⟩ hcv HNG.out rfl (fm_three h)))
    have HMIS := Lib.hid (fun (h : ∀ j, j < 3 → fm (86400 * day + 3600 * a3 + 60 * a4 + a5) y m d j ≠ l) => HNO.out (fun t ht => by
      have e := (HRD.out t ht).2
      subst e
      exact fm_all h (fa_forms hcv ht)))
    have c0' : wf.cell? ⟨g, 0, none⟩ = some (.string ⟨(fm (86400 * day + 3600 * a3 + 60 * a4 + a5) y m d 0).toArray⟩) := c0
    have c1' : wf.cell? ⟨g, 1, none⟩ = some (.string ⟨(fm (86400 * day + 3600 * a3 + 60 * a4 + a5) y m d 1).toArray⟩) := c1
    have c2' : wf.cell? ⟨g, 2, none⟩ = some (.string ⟨(fm (86400 * day + 3600 * a3 + 60 * a4 + a5) y m d 2).toArray⟩) := c2
    clear c0 c1 c2 hb1 hcv HRD HHH HNO HY
    generalize fm (86400 * day + 3600 * a3 + 60 * a4 + a5) y m d = f at *
    go_wp2
    go_loop [12] (fun i => ∃ k : Nat, k ≤ 3 ∧ i = .int .i64 k ∧ ∀ j, j < k → f j ≠ l) (fun i => 3 - (intOf i).toNat)
    case atStart => exact ⟨0, by omega, rfl, fun j hj => absurd hj (by omega)⟩
    case round =>
      obtain ⟨k, hk, rfl, hno⟩ := hrel
      have HN := Lib.hid hno
      clear hno
      have hkc : k = 0 ∨ k = 1 ∨ k = 2 ∨ k = 3 := by omega
      by_cases h3 : k = 3
      · subst h3
        have HE := Lib.hid (HMIS.out (fun j hj => HN.out j hj))
        clear hkc
        go_wp2
        go_ret2
        exact ⟨by rw [HE.out]; rfl, HB.out⟩
      have HNN : Hid (f k ≠ l → ∀ j, j < k + 1 → f j ≠ l) := Lib.hid (fun e j hj => by
        rcases Nat.lt_or_ge j k with h' | h'
        · exact HN.out j h'
        · have : j = k := by omega
          subst this; exact e)
      by_cases e : f k = l
      · have HE := Lib.hid (HHIT.out k e)
        have HEE := Lib.hid e
        clear HNN HMIS HHIT
        rcases hkc with rfl | rfl | rfl | rfl
        · obtain rfl := HEE.out
          go_wp2
          go_ret2
          exact ⟨by rw [HE.out]; rfl, HB.out⟩
        · obtain rfl := HEE.out
          go_wp2
          go_ret2
          exact ⟨by rw [HE.out]; rfl, HB.out⟩
        · obtain rfl := HEE.out
          go_wp2
          go_ret2
          exact ⟨by rw [HE.out]; rfl, HB.out⟩
        · exact absurd rfl h3
      · have HE := Lib.hid (HNN.out e)
        have hq : (f k == l) = false := by simpa using e
        clear HNN e
        rcases hkc with rfl | rfl | rfl | rfl
        · go_wp2
          go_round
          case rel => exact ⟨1, by omega, rfl, HE.out⟩
          case measure => decide
        · go_wp2
          go_round
          case rel => exact ⟨2, by omega, rfl, HE.out⟩
          case measure => decide
        · go_wp2
          go_round
          case rel => exact ⟨3, by omega, rfl, HE.out⟩
          case measure => decide
        · exact absurd rfl h3
end Go.Proofs.YtidmppphlcfpjaaGreatDoor.Dt

/-
  CONTRACT of the model's ParseDate at texts of the other lengths, and at all.
-/
namespace Go.Proofs.YtidmppphlcfpjaaGreatDoor.Dt
open Go Go.RowKit
set_option linter.unusedVariables false
set_option maxRecDepth 1000000

set_option maxRecDepth 1000000 in
set_option maxHeartbeats 1000000 in
theorem spec_pd30 (l : List UInt8) {k : Nat} (hk : l.length = k + 24) (h30 : 30 ≤ l.length ∧ l.length ≤ 33) (hs : l.length ≤ 67108864) (w : World) : Calls Tryz.prog 77 #[.string ⟨l.toArray⟩] w (PdEnd (pdate l) w) := by
  have hsz : (⟨l.toArray⟩ : ByteArray).size = l.length := by simp [ByteArray.size]
  have HB := Lib.hid (Below.refl w.heap.size w)
  have HY := Lib.hid (fun t h => pdate_yes (l := l) (t := t) h)
  have HNO := Lib.hid (pdate_no (l := l))
  have HRD := Lib.hid (fun t (h : FA l t) => fa2 hk h30 h)
  have HHH : Hid (∀ t y m d, InT t → CV (t / 86400) y m d → ¬ dof (yr2 (tw l (k + 9))) (monOf ((l.drop (k + 5)).take 3)) (tw l (k + 2)) < 0 → t = 86400 * dof (yr2 (tw l (k + 9))) (monOf ((l.drop (k + 5)).take 3)) (tw l (k + 2)) + 3600 * tw l (k + 12) + 60 * tw l (k + 15) + tw l (k + 18) → (l = form1 t y m d ∨ l = form2 t y m d ∨ l = form3 t y m d) → FA l t) := Lib.hid (fun t y m d h1 h2 h3 h4 h5 => hit2 hk h30 h1 h2 h3 h4 h5)
  have C0 := Lib.hid (fun W p => spec_two_at l (k + 9) (by omega) hs W p)
  have b0 := tw_bd l (k + 9)
  have C1 := Lib.hid (fun W p => spec_two_at l (k + 2) (by omega) hs W p)
  have b1 := tw_bd l (k + 2)
  have C2 := Lib.hid (fun W p => spec_two_at l (k + 12) (by omega) hs W p)
  have b2 := tw_bd l (k + 12)
  have C3 := Lib.hid (fun W p => spec_two_at l (k + 15) (by omega) hs W p)
  have b3 := tw_bd l (k + 15)
  have C4 := Lib.hid (fun W p => spec_two_at l (k + 18) (by omega) hs W p)
  have b4 := tw_bd l (k + 18)
  have CM := Lib.hid (fun W p => spec_mon_at l (k + 5) (by omega) hs W p)
  have hyb := yr2_bd (tw_bd l (k + 9)).1 (tw_bd l (k + 9)).2
  have hyr : yr2 (tw l (k + 9)) = if 1900 + tw l (k + 9) < 1970 then 1900 + tw l (k + 9) + 100 else 1900 + tw l (k + 9) := rfl
  have HD := Lib.hid (fun W => spec_days_at (yr2 (tw l (k + 9))) (monOf ((l.drop (k + 5)).take 3)) (tw l (k + 2)) (Go.WalkArith.wf_i64 ⟨by omega, by omega⟩) W)
  have hdb := dof_bd (yr2 (tw l (k + 9))) (monOf ((l.drop (k + 5)).take 3)) (tw l (k + 2))
  unfold Num at HD
  generalize dof (yr2 (tw l (k + 9))) (monOf ((l.drop (k + 5)).take 3)) (tw l (k + 2)) = day at HD hdb HRD HHH
  generalize monOf ((l.drop (k + 5)).take 3) = mm at CM HD
  generalize tw l (k + 9) = a0 at *
  obtain ⟨b00, b01⟩ := b0
  generalize tw l (k + 2) = a1 at *
  obtain ⟨b10, b11⟩ := b1
  generalize tw l (k + 12) = a2 at *
  obtain ⟨b20, b21⟩ := b2
  generalize tw l (k + 15) = a3 at *
  obtain ⟨b30, b31⟩ := b3
  generalize tw l (k + 18) = a4 at *
  obtain ⟨b40, b41⟩ := b4
  obtain ⟨yb0, yb1⟩ := hyb
  have HYY := Lib.hid hyr
  clear hyr
  generalize yr2 a0 = yy at *
  obtain ⟨db0, db1⟩ := hdb
  unfold PdEnd
  generalize hpd : pdate l = pd at HY HNO ⊢
  clear hpd
  have hlk : (l.length : Int) = (k : Int) + 24 := by omega
  obtain ⟨hk6, hk9⟩ : (6 : Int) ≤ (k : Int) ∧ (k : Int) ≤ 9 := by omega
  have hq1 : ((k : Int) + 24 == 29) = false := by rw [beq_eq_false_iff_ne]; omega
  have hq2 : ((k : Int) + 24 == 24) = false := by rw [beq_eq_false_iff_ne]; omega
  have HIN := Lib.hid (fun W (z : Int) (h : z = (k : Int) + 24) => NumDiv.in_yes z 30 33 W (by omega) (by omega))
  go_enter Tryz.func77, Tryz.ntmps77
  go_wp2_with (fail)
  go_at_call 90
  refine (HIN.out _ _ (by omega)).mono ?_
  rintro e wn ⟨rfl, rfl⟩
  go_wp2_with (fail)
  go_at_call 103
  refine (C0.out _ _ (by omega)).mono ?_
  rintro e w9 ⟨rfl, hb1⟩
  have HB := Lib.hid (Base.then_below HB.out hb1)
  clear hb1
  by_cases h70 : 1900 + a0 < 1970
  · have HYR : Hid (1900 + a0 + 100 = yy) := Lib.hid (by rw [HYY.out, if_pos h70])
    go_wp2_with (fail)
    go_at_call 104
    refine (CM.out _ _ (by omega)).mono ?_
    rintro e w11 ⟨rfl, hb1⟩
    have HB := Lib.hid (Base.then_below HB.out hb1)
    clear hb1
    go_wp2_with (fail)
    go_at_call 103
    refine (C1.out _ _ (by omega)).mono ?_
    rintro e w12 ⟨rfl, hb1⟩
    have HB := Lib.hid (Base.then_below HB.out hb1)
    clear hb1
    go_wp2_with (fail)
    go_at_call 105
    refine (HD.out _ _ _ _ HYR.out (by omega) (by omega)).mono ?_
    rintro e w10 ⟨rfl, hb1⟩
    have HB := Lib.hid (Base.then_below HB.out hb1)
    clear hb1
    by_cases hneg : day < 0
    · have HE := Lib.hid (HNO.out (fun t h => by have := (HRD.out t h).1; omega))
      go_wp2
      go_ret2
      exact ⟨by rw [HE.out]; rfl, HB.out⟩
    have HNG : Hid (¬ day < 0) := Lib.hid hneg
    go_wp2_with (fail)
    go_at_call 103
    refine (C2.out _ _ (by omega)).mono ?_
    rintro e w13 ⟨rfl, hb1⟩
    have HB := Lib.hid (Base.then_below HB.out hb1)
    clear hb1
    go_wp2_with (fail)
    go_at_call 103
    refine (C3.out _ _ (by omega)).mono ?_
    rintro e w14 ⟨rfl, hb1⟩
    have HB := Lib.hid (Base.then_below HB.out hb1)
    clear hb1
    go_wp2_with (fail)
    go_at_call 103
    refine (C4.out _ _ (by omega)).mono ?_
    rintro e w15 ⟨rfl, hb1⟩
    have HB := Lib.hid (Base.then_below HB.out hb1)
    clear hb1
    by_cases hin : 0 ≤ (86400 * day + 3600 * a2 + 60 * a3 + a4) ∧ (86400 * day + 3600 * a2 + 60 * a3 + a4) ≤ 4102444799
    case neg =>
      have HE := Lib.hid (HNO.out (fun t h => by
        have h1 := (HRD.out t h).2
        have h2 := fa_in h
        have h3 := h2.1
        have h4 := h2.2
        omega))
      have HOUT := Lib.hid (show (86400 * day + 3600 * a2 + 60 * a3 + a4) < 0 ∨ 4102444799 < (86400 * day + 3600 * a2 + 60 * a3 + a4) by omega)
      clear hin
      go_wp2_with (fail)
      go_at_call 90
      refine (NumDiv.in_no _ _ _ _ HOUT.out).mono ?_
      rintro e wn ⟨rfl, rfl⟩
      go_wp2
      go_ret2
      exact ⟨by rw [HE.out]; rfl, HB.out⟩
    obtain ⟨hT0, hT1⟩ := hin
    go_wp2_with (fail)
    go_at_call 90
    refine (NumDiv.in_yes _ _ _ _ hT0 hT1).mono ?_
    rintro e wn ⟨rfl, rfl⟩
    go_wp2_with (fail)
    go_at_call 106
    refine (spec_forms (86400 * day + 3600 * a2 + 60 * a3 + a4) _ hT0 hT1).mono ?_
    rintro e wf ⟨y, m, d, g, hcv, rfl, ⟨c0, c1, c2⟩, hb1⟩
    have HB := Lib.hid (Base.then_below HB.out hb1)
    have HHIT := Lib.hid (fun j (h : fm (86400 * day + 3600 * a2 + 60 * a3 + a4) y m d j = l) => HY.out (86400 * day + 3600 * a2 + 60 * a3 + a4) (HHH.out (86400 * day + 3600 * a2 + 60 * a3 + a4) y m d ⟨hT0, hT1⟩ hcv HNG.out rfl (fm_three h)))
    have HMIS := Lib.hid (fun (h : ∀ j, j < 3 → fm (86400 * day + 3600 * a2 + 60 * a3 + a4) y m d j ≠ l) => HNO.out (fun t ht => by
      have e := (HRD.out t ht).2
      subst e
      exact fm_all h (fa_forms hcv ht)))
    have c0' : wf.cell? ⟨g, 0, none⟩ = some (.string ⟨(fm (86400 * day + 3600 * a2 + 60 * a3 + a4) y m d 0).toArray⟩) := c0
    have c1' : wf.cell? ⟨g, 1, none⟩ = some (.string ⟨(fm (86400 * day + 3600 * a2 + 60 * a3 + a4) y m d 1).toArray⟩) := c1
    have c2' : wf.cell? ⟨g, 2, none⟩ = some (.string ⟨(fm (86400 * day + 3600 * a2 + 60 * a3 + a4) y m d 2).toArray⟩) := c2
    clear c0 c1 c2 hb1 hcv HRD HHH HNO HY
    generalize fm (86400 * day + 3600 * a2 + 60 * a3 + a4) y m d = f at *
    go_wp2
    go_loop [12] (fun i => ∃ k : Nat, k ≤ 3 ∧ i = .int .i64 k ∧ ∀ j, j < k → f j ≠ l) (fun i => 3 - (intOf i).toNat)
    case atStart => exact ⟨0, by omega, rfl, fun j hj => absurd hj (by omega)⟩
    case round =>
      obtain ⟨k, hk, rfl, hno⟩ := hrel
      have HN := Lib.hid hno
      clear hno
      have hkc : k = 0 ∨ k = 1 ∨ k = 2 ∨ k = 3 := by omega
      by_cases h3 : k = 3
      · subst h3
        have HE := Lib.hid (HMIS.out (fun j hj => HN.out j hj))
        clear hkc
        go_wp2
        go_ret2
        exact ⟨by rw [HE.out]; rfl, HB.out⟩
      have HNN : Hid (f k ≠ l → ∀ j, j < k + 1 → f j ≠ l) := Lib.hid (fun e j hj => by
        rcases Nat.lt_or_ge j k with h' | h'
        · exact HN.out j h'
        · have : j = k := by omega
          subst this; exact e)
      by_cases e : f k = l
      · have HE := Lib.hid (HHIT.out k e)
        have HEE := Lib.hid e
        clear HNN HMIS HHIT
        rcases hkc with rfl | rfl | rfl | rfl
        · obtain rfl := HEE.out
          go_wp2
          go_ret2
          exact ⟨by rw [HE.out]; rfl, HB.out⟩
        · obtain rfl := HEE.out
          go_wp2
          go_ret2
          exact ⟨by rw [HE.out]; rfl, HB.out⟩
        · obtain rfl := HEE.out
          go_wp2
          go_ret2
          exact ⟨by rw [HE.out]; rfl, HB.out⟩
        · exact absurd rfl h3
      · have HE := Lib.hid (HNN.out e)
        have hq : (f k == l) = false := by simpa using e
        clear HNN e
        rcases hkc with rfl | rfl | rfl | rfl
        · go_wp2
          go_round
          case rel => exact ⟨1, by omega, rfl, HE.out⟩
          case measure => decide
        · go_wp2
          go_round
          case rel => exact ⟨2, by omega, rfl, HE.out⟩
          case measure => decide
        · go_wp2
          go_round
          case rel => exact ⟨3, by omega, rfl, HE.out⟩
          case measure => decide
        · exact absurd rfl h3
  · have HYR : Hid (1900 + a0 = yy) := Lib.hid (by rw [HYY.out, if_neg h70])
    go_wp2_with (fail)
    go_at_call 104
    refine (CM.out _ _ (by omega)).mono ?_
    rintro e w11 ⟨rfl, hb1⟩
    have HB := Lib.hid (Base.then_below HB.out hb1)
    clear hb1
    go_wp2_with (fail)
    go_at_call 103
    refine (C1.out _ _ (by omega)).mono ?_
    rintro e w12 ⟨rfl, hb1⟩
    have HB := Lib.hid (Base.then_below HB.out hb1)
    clear hb1
    go_wp2_with (fail)
    go_at_call 105
    refine (HD.out _ _ _ _ HYR.out (by omega) (by omega)).mono ?_
    rintro e w10 ⟨rfl, hb1⟩
    have HB := Lib.hid (Base.then_below HB.out hb1)
    clear hb1
    by_cases hneg : day < 0
    · have HE := Lib.hid (HNO.out (fun t h => by have := (HRD.out t h).1; omega))
      go_wp2
      go_ret2
      exact ⟨by rw [HE.out]; rfl, HB.out⟩
    have HNG : Hid (¬ day < 0) := Lib.hid hneg
    go_wp2_with (fail)
    go_at_call 103
    refine (C2.out _ _ (by omega)).mono ?_
    rintro e w13 ⟨rfl, hb1⟩
    have HB := Lib.hid (Base.then_below HB.out hb1)
    clear hb1
    go_wp2_with (fail)
    go_at_call 103
    refine (C3.out _ _ (by omega)).mono ?_
    rintro e w14 ⟨rfl, hb1⟩
    have HB := Lib.hid (Base.then_below HB.out hb1)
    clear hb1
    go_wp2_with (fail)
    go_at_call 103
    refine (C4.out _ _ (by omega)).mono ?_
    rintro e w15 ⟨rfl, hb1⟩
    have HB := Lib.hid (Base.then_below HB.out hb1)
    clear hb1
    by_cases hin : 0 ≤ (86400 * day + 3600 * a2 + 60 * a3 + a4) ∧ (86400 * day + 3600 * a2 + 60 * a3 + a4) ≤ 4102444799
    case neg =>
      have HE := Lib.hid (HNO.out (fun t h => by
        have h1 := (HRD.out t h).2
        have h2 := fa_in h
        have h3 := h2.1
        have h4 := h2.2
        omega))
      have HOUT := Lib.hid (show (86400 * day + 3600 * a2 + 60 * a3 + a4) < 0 ∨ 4102444799 < (86400 * day + 3600 * a2 + 60 * a3 + a4) by omega)
      clear hin
      go_wp2_with (fail)
      go_at_call 90
      refine (NumDiv.in_no _ _ _ _ HOUT.out).mono ?_
      rintro e wn ⟨rfl, rfl⟩
      go_wp2
      go_ret2
      exact ⟨by rw [HE.out]; rfl, HB.out⟩
    obtain ⟨hT0, hT1⟩ := hin
    go_wp2_with (fail)
    go_at_call 90
    refine (NumDiv.in_yes _ _ _ _ hT0 hT1).mono ?_
    rintro e wn ⟨rfl, rfl⟩
    go_wp2_with (fail)
    go_at_call 106
    refine (spec_forms (86400 * day + 3600 * a2 + 60 * a3 + a4) _ hT0 hT1).mono ?_
    rintro e wf ⟨y, m, d, g, hcv, rfl, ⟨c0, c1, c2⟩, hb1⟩
    have HB := Lib.hid (Base.then_below HB.out hb1)
    have HHIT := Lib.hid (fun j (h : fm (86400 * day + 3600 * a2 + 60 * a3 + a4) y m d j = l) => HY.out (86400 * day + 3600 * a2 + 60 * a3 + a4) (HHH.out (86400 * day + 3600 * a2 + 60 * a3 + a4) y m d ⟨hT0, hT1⟩ hcv HNG.out rfl (fm_three h)))
    have HMIS := Lib.hid (fun (h : ∀ j, j < 3 → fm (86400 * day + 3600 * a2 + 60 * a3 + a4) y m d j ≠ l) => HNO.out (fun t ht => by
      have e := (HRD.out t ht).2
      subst e
      exact fm_all h (fa_forms hcv ht)))
    have c0' : wf.cell? ⟨g, 0, none⟩ = some (.string ⟨(fm (86400 * day + 3600 * a2 + 60 * a3 + a4) y m d 0).toArray⟩) := c0
    have c1' : wf.cell? ⟨g, 1, none⟩ = some (.string ⟨(fm (86400 * day + 3600 * a2 + 60 * a3 + a4) y m d 1).toArray⟩) := c1
    have c2' : wf.cell? ⟨g, 2, none⟩ = some (.string ⟨(fm (86400 * day + 3600 * a2 + 60 * a3 + a4) y m d 2).toArray⟩) := c2
    clear c0 c1 c2 hb1 hcv HRD HHH HNO HY
    generalize fm (86400 * day + 3600 * a2 + 60 * a3 + a4) y m d = f at *
    go_wp2
    go_loop [12] (fun i => ∃ k : Nat, k ≤ 3 ∧ i = .int .i64 k ∧ ∀ j, j < k → f j ≠ l) (fun i => 3 - (intOf i).toNat)
    case atStart => exact ⟨0, by omega, rfl, fun j hj => absurd hj (by omega)⟩
    case round =>
      obtain ⟨k, hk, rfl, hno⟩ := hrel
      have HN := Lib.hid hno
      clear hno
      have hkc : k = 0 ∨ k = 1 ∨ k = 2 ∨ k = 3 := by omega
      by_cases h3 : k = 3
      · subst h3
        have HE := Lib.hid (HMIS.out (fun j hj => HN.out j hj))
        clear hkc
        go_wp2
        go_ret2
        exact ⟨by rw [HE.out]; rfl, HB.out⟩
      have HNN : Hid (f k ≠ l → ∀ j, j < k + 1 → f j ≠ l) := Lib.hid (fun e j hj => by
        rcases Nat.lt_or_ge j k with h' | h'
        · exact HN.out j h'
        · have : j = k := by omega
          subst this; exact e)
      by_cases e : f k = l
      · have HE := Lib.hid (HHIT.out k e)
        have HEE := Lib.hid e
        clear HNN HMIS HHIT
        rcases hkc with rfl | rfl | rfl | rfl
        · obtain rfl := HEE.out
          go_wp2
          go_ret2
          exact ⟨by rw [HE.out]; rfl, HB.out⟩
        · obtain rfl := HEE.out
          go_wp2
          go_ret2
          exact ⟨by rw [HE.out]; rfl, HB.out⟩
        · obtain rfl := HEE.out
          go_wp2
          go_ret2
          exact ⟨by rw [HE.out]; rfl, HB.out⟩
        · exact absurd rfl h3
      · have HE := Lib.hid (HNN.out e)
        have hq : (f k == l) = false := by simpa using e
        clear HNN e
        rcases hkc with rfl | rfl | rfl | rfl
        · go_wp2
          go_round
          case rel => exact ⟨1, by omega, rfl, HE.out⟩
          case measure => decide
        · go_wp2
          go_round
          case rel => exact ⟨2, by omega, rfl, HE.out⟩
          case measure => decide
        · go_wp2
          go_round
          case rel => exact ⟨3, by omega, rfl, HE.out⟩
          case measure => decide
        · exact absurd rfl h3

end Go.Proofs.YtidmppphlcfpjaaGreatDoor.Dt

/-
  CONTRACT of the model's ParseDate at texts of the other lengths, and at all.
-/
namespace Go.Proofs.YtidmppphlcfpjaaGreatDoor.Dt
open Go Go.RowKit
set_option linter.unusedVariables false
set_option maxRecDepth 1000000


set_option maxHeartbeats 1000000 in
theorem spec_pdo (l : List UInt8) (h1 : l.length ≠ 29) (h2 : l.length ≠ 24) (h3 : l.length < 30 ∨ 33 < l.length) (hs : l.length ≤ 67108864) (w : World) : Calls Tryz.prog 77 #[.string ⟨l.toArray⟩] w (PdEnd (pdate l) w) := by
  have hsz : (⟨l.toArray⟩ : ByteArray).size = l.length := by simp [ByteArray.size]
  have HE : Hid (pdate l = (0, false)) := Lib.hid (pdate_no (by
    rintro t (h | h | h)
    · exact h1 (f1_read h).1
    · have := (f2_read h).1; omega
    · exact h2 (f3_read h).1))
  have q1 : ((l.length : Int) == 29) = false := by rw [beq_eq_false_iff_ne]; omega
  have q2 : ((l.length : Int) == 24) = false := by rw [beq_eq_false_iff_ne]; omega
  have HO := Lib.hid (show (l.length : Int) < 30 ∨ 33 < (l.length : Int) by omega)
  have HD := Lib.hid (fun W => spec_days 0 0 0 W (by decide))
  have hd : dof 0 0 0 = -1 := rfl
  rw [hd] at HD
  unfold Num at HD
  unfold PdEnd
  go_enter Tryz.func77, Tryz.ntmps77
  go_wp2_with (fail)
  go_at_call 90
  refine (NumDiv.in_no _ _ _ _ HO.out).mono ?_
  rintro e wn ⟨rfl, rfl⟩
  go_wp2_with (fail)
  go_at_call 105
  refine (HD.out _).mono ?_
  rintro e w1 ⟨rfl, hb1⟩
  have HB := Lib.hid hb1
  clear hb1
  go_wp2
  go_ret2
  exact ⟨by rw [HE.out]; rfl, HB.out⟩
theorem spec_pdate (l : List UInt8) (w : World) (hs : l.length ≤ 67108864) : Calls Tryz.prog 77 #[.string ⟨l.toArray⟩] w (PdEnd (pdate l) w) := by
  by_cases h1 : l.length = 29
  · exact spec_pd29 l h1 hs w
  · by_cases h2 : l.length = 24
    · exact spec_pd24 l h2 hs w
    · by_cases h3 : l.length < 30 ∨ 33 < l.length
      · exact spec_pdo l h1 h2 h3 hs w
      · exact spec_pd30 l (k := l.length - 24) (by omega) (by omega) hs w
end Go.Proofs.YtidmppphlcfpjaaGreatDoor.Dt

/-
  CONTRACT of the model's Max.
-/
namespace Go.Proofs.YtidmppphlcfpjaaGreatDoor.Mm
open Go Go.RowKit
set_option linter.unusedVariables false
set_option maxRecDepth 1000000
theorem ret_max_spec {a b : Int} (h : a = b) : Ending.returned (.int .i64 a) = .returned (.int .i64 b) := by rw [h]
theorem spec_max (a b : Int) (w : World) : Calls Tryz.prog 80 #[.int .i64 a, .int .i64 b] w fun e w' => e = .returned (.int .i64 (max a b)) ∧ w = w' := by
  by_cases h : b ≤ a
  · go_enter Tryz.func80, Tryz.ntmps80
    go_wp2
    all_goals go_ret
    all_goals exact ⟨ret_max_spec (by omega), rfl⟩
  · go_enter Tryz.func80, Tryz.ntmps80
    go_wp2
    all_goals go_ret
    all_goals exact ⟨ret_max_spec (by omega), rfl⟩
end Go.Proofs.YtidmppphlcfpjaaGreatDoor.Mm

/-
  CONTRACTS of the program's Min and Max.
-/
namespace Go.Proofs.YtidmppphlcfpjaaGreatDoor.Mm
open Go Go.RowKit
set_option linter.unusedVariables false
set_option maxRecDepth 1000000
theorem ret_int {a b : Int} (h : a = b) : Ending.returned (.int .i64 a) = .returned (.int .i64 b) := by rw [h]
theorem impl_min (a b : Int) (w : World) : Calls Tryz.prog 160 #[.int .i64 a, .int .i64 b] w fun e w' => e = .returned (.int .i64 (min a b)) ∧ w = w' := by
  by_cases h : a ≤ b
  · have HE := Lib.hid (show a = min a b by omega)
    go_enter Tryz.func160, Tryz.ntmps160
    go_wp2
    all_goals go_ret
    all_goals exact ⟨ret_int (by omega), rfl⟩
  · go_enter Tryz.func160, Tryz.ntmps160
    go_wp2
    all_goals go_ret
    all_goals exact ⟨ret_int (by omega), rfl⟩
end Go.Proofs.YtidmppphlcfpjaaGreatDoor.Mm
