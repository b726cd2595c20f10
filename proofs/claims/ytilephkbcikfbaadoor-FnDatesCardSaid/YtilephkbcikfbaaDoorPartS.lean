/-
  CONTRACTS AND PLAIN FACTS, several texts in one; each says in its own words what it proves.
-/
import Derived.Test.YtilephkbcikfbaaDoorPartR
import Derived.Test.YtilephkbcikfbaaDoorPartE
import Derived.Test.YtilephkbcikfbaaDoorPartF
set_option linter.unusedSimpArgs false
set_option linter.unusedVariables false

/-
  PLAIN FACTS for the law of chapter 3: a time that is written is read back; what is read lies in range; the 29th of February stands in a leap year alone; weekdays follow each other.
-/
namespace Go.Proofs.YtilephkbcikfbaaDoor.Dt
open Go Go.RowKit
set_option linter.unusedVariables false
set_option maxRecDepth 1000000

theorem form1_read {t y m d : Int} (ht : InT t) (hcv : CV (t / 86400) y m d) : pdate (form1 t y m d) = (t, true) ∧ (form1 t y m d).length = 29 := by
  obtain ⟨a, b, c, f, g, i⟩ := cv_bd hcv
  have h := (read1 ht a b c f g i rfl).1
  exact ⟨pdate_yes (hit1 h ht hcv (Or.inl rfl)), h⟩
theorem form_lens {t y m d : Int} (ht : InT t) (hcv : CV (t / 86400) y m d) : (form1 t y m d).length ≤ 33 ∧ (form2 t y m d).length ≤ 33 ∧ (form3 t y m d).length ≤ 33 := by
  obtain ⟨a, b, c, f, g, i⟩ := cv_bd hcv
  have h1 := (read1 ht a b c f g i rfl).1
  have h2 := (read2 ht a b c f g i rfl).1.2
  have h3 := (read3 ht a b c f g i rfl).1
  exact ⟨by omega, h2, by omega⟩
theorem pdate_in {l : List UInt8} (h : (pdate l).2 = true) : InT (pdate l).1 := by
  by_cases hx : ∃ t, FA l t
  · obtain ⟨t, ht⟩ := hx
    rw [pdate_yes ht]; exact fa_in ht
  · rw [pdate_no (fun t ht => hx ⟨t, ht⟩)] at h; cases h
theorem leap_ok {day y m d : Int} (h : CV day y m d) (hm : m = 2) (hd : d = 29) : lpB y = true := by
  obtain ⟨_, _, _, _, _, h6, _⟩ := h
  subst hm
  subst hd
  unfold dim at h6
  by_cases e : lpB y = true
  · exact e
  · rw [if_neg (fun x => e x.2)] at h6
    have : mdt (2 - 1 : Int).toNat = 28 := by decide
    omega
/-- What FormatDate writes of t, seen by ParseDate. -/
def Fm (t : Int) (l : List UInt8) : Prop := l.length ≤ 33 ∧ ((InT t ∧ pdate l = (t, true) ∧ l.length = 29) ∨ (¬ InT t ∧ pdate l = (0, false)))
def FmEnd (t : Int) (w : World) (e : Ending) (w' : World) : Prop := ∃ l, Fm t l ∧ e = .returned (.string ⟨l.toArray⟩) ∧ Below w.heap.size w w'
theorem fm_any (t : Int) (w : World) (ht : Mds w) (hn : Names w) (hten : Fmt.Tens w) : Calls Tryd.prog 6 #[.int .i64 t] w (FmEnd t w) := by
  by_cases h : InT t
  · refine (impl_date t w h.1 h.2 ht hn hten).mono ?_
    rintro e w1 ⟨y, m, d, hcv, rfl, hb⟩
    obtain ⟨h1, h2⟩ := form1_read h hcv
    exact ⟨_, ⟨by omega, Or.inl ⟨h, h1, h2⟩⟩, rfl, hb⟩
  · refine (impl_date_out t w (by unfold InT at h; omega)).mono ?_
    rintro e w1 ⟨rfl, hb⟩
    exact ⟨[], ⟨by simp, Or.inr ⟨h, pdate_nil⟩⟩, rfl, hb⟩
end Go.Proofs.YtilephkbcikfbaaDoor.Dt

/-
  CONTRACTS of the draws of chapter 3 (l3Time, DrawFormatDate, DrawCivilOf, DrawParseDate): over any slice of bytes they answer an integer of 64 bits, a day from -1 to 47482, a short text; nothing that was there before is changed.
-/
namespace Go.Proofs.YtilephkbcikfbaaDoor.Cur
open Go Go.RowKit
set_option linter.unusedVariables false
set_option maxRecDepth 1000000

def dtexts : List (List UInt8) := [[], [83, 117, 110, 44, 32, 48, 54, 32, 78, 111, 118, 32, 49, 57, 57, 52, 32, 48, 56, 58, 52, 57, 58, 51, 55, 32, 71, 77, 84], [77, 111, 110, 44, 32, 48, 54, 32, 78, 111, 118, 32, 49, 57, 57, 52, 32, 48, 56, 58, 52, 57, 58, 51, 55, 32, 71, 77, 84], [83, 117, 110, 44, 32, 48, 54, 32, 78, 111, 118, 32, 49, 57, 57, 52, 32, 48, 56, 58, 52, 57, 58, 54, 48, 32, 71, 77, 84], [83, 117, 110, 44, 32, 51, 49, 32, 70, 101, 98, 32, 49, 57, 57, 52, 32, 48, 56, 58, 52, 57, 58, 51, 55, 32, 71, 77, 84], [84, 104, 117, 44, 32, 48, 49, 32, 74, 97, 110, 32, 49, 57, 55, 48, 32, 48, 48, 58, 48, 48, 58, 48, 48, 32, 71, 77, 84], [83, 117, 110, 100, 97, 121, 44, 32, 48, 54, 45, 78, 111, 118, 45, 57, 52, 32, 48, 56, 58, 52, 57, 58, 51, 55, 32, 71, 77, 84], [83, 117, 110, 32, 78, 111, 118, 32, 32, 54, 32, 48, 56, 58, 52, 57, 58, 51, 55, 32, 49, 57, 57, 52], [83, 117, 110, 32, 78, 111, 118, 32, 48, 54, 32, 48, 56, 58, 52, 57, 58, 51, 55, 32, 49, 57, 57, 52], [87, 101, 100, 110, 101, 115, 100, 97, 121, 44, 32, 48, 54, 45, 78, 111, 118, 45, 50, 52, 32, 48, 56, 58, 52, 57, 58, 51, 55, 32, 71, 77, 84]]
theorem dtexts_len (x : List UInt8) (h : x ∈ dtexts) : x.length ≤ 33 := by
  have hall : dtexts.all (fun x => decide (x.length ≤ 33)) = true := by decide
  have := List.all_eq_true.1 hall x h
  simpa using this
def times : List Int := [0, 86399, 86400, 68169600, 951782400, 4102444799, 4102444800, 784111777]
theorem times_fit (x : Int) (h : x ∈ times) : Fits x := by
  unfold times at h; unfold Fits
  simp at h
  omega
theorem time_any (c B : Nat) (bv : Value) (w : World) (hcur : CurAt w c bv) (hby : Bytes w B bv) (hB : B ≤ c) :
    Calls Tryd.prog 16 #[.pointer (some ⟨c, 0, none⟩)] w (Drawn Fits c bv w) := by
  go_enter Tryd.func16, Tryd.ntmps16
  go_wp2_with (fail)
  go_at_call 23
  refine (below_any c B bv _ _ hcur hby hB (by omega)).mono ?_
  rintro e w1 ⟨k, hk, rfl, hc1, hg1⟩
  have hb1 := bytes_kept hby hg1 hB
  obtain ⟨hk0, hk1⟩ := hk
  have hk8 : k < 8 := by omega
  clear hk1
  by_cases e0 : k = 0
  · subst e0
    go_wp2_with (go_at_call 31; refine (odd_any c B bv _ hc1 hb1 hB).mono ?_; rintro e w2 ⟨x, hx, rfl, hc2, hg2⟩)
    go_ret
    exact ⟨_, hx, rfl, hc2, gb_trans hg1 hg2⟩
  · by_cases e1 : k = 1
    · subst e1
      have H := int_lits c B bv times 8 rfl w1 hc1 hb1 hB (by decide) (by decide) 3
      go_wp2_with (fail)
      go_at_call 22
      refine H.mono ?_
      rintro e w2 ⟨x, hx, rfl, hc2, hg2⟩
      have HX := Lib.hid (times_fit x hx)
      have HG := Lib.hid (gb_trans hg1 hg2)
      clear hx H
      go_wp2
      go_ret
      exact ⟨_, HX.out, rfl, hc2, HG.out⟩
    · go_wp2_with (fail)
      go_at_call 23
      refine (below_any c B bv _ _ hc1 hb1 hB (by omega)).mono ?_
      rintro e w2 ⟨x, hx, rfl, hc2, hg2⟩
      have hb2 := bytes_kept hb1 hg2 hB
      obtain ⟨hx0, hx1⟩ := hx
      have hx2 : x < 16000000 := by omega
      clear hx1
      go_wp2_with (fail)
      go_at_call 23
      refine (below_any c B bv _ _ hc2 hb2 hB (by omega)).mono ?_
      rintro e w3 ⟨y, hy, rfl, hc3, hg3⟩
      obtain ⟨hy0, hy1⟩ := hy
      have hy2 : y < 256 := by omega
      clear hy1
      go_wp2
      go_ret
      exact ⟨_, ⟨by omega, by omega⟩, rfl, hc3, gb_trans (gb_trans hg1 hg2) hg3⟩

/-- How a law's draw of an integer ends. -/
def OneNum (P : Int → Prop) (w : World) (e : Ending) (w' : World) : Prop := ∃ x : Int, P x ∧ e = .returned (.int .i64 x) ∧ Below w.heap.size w w'
def OneTy (m : Nat) (w : World) (e : Ending) (w' : World) : Prop := ∃ x : List UInt8, x.length ≤ m ∧ e = .returned (.string ⟨x.toArray⟩) ∧ Below w.heap.size w w'
theorem draw_fd (B : Nat) (bv : Value) (w : World) (hby : Bytes w B bv) (hB : B ≤ w.heap.size) :
    Calls Tryd.prog 5 #[bv] w (OneNum Fits w) := by
  go_enter Tryd.func5, Tryd.ntmps5
  go_wp2_with (fail)
  go_at_call 15
  refine (new_any B bv _ hby).mono ?_
  rintro e w1 ⟨h, rfl, rfl⟩
  go_wp2_with (fail)
  go_at_call 16
  refine (time_any w.heap.size B bv _ (made_cur bv h w) (bytes_alloc hby _) hB).mono ?_
  rintro e w2 ⟨x, hx, rfl, hc2, hg2⟩
  have HE := Lib.hid (And.intro hx (below_gb ((Below.refl _ _).alloc (Nat.le_refl _) _) hg2 (by simp) (Nat.le_refl _)))
  clear hx hc2 hg2
  go_wp2
  go_ret
  exact ⟨_, HE.out.1, rfl, HE.out.2⟩

theorem draw_cv (B : Nat) (bv : Value) (w : World) (hby : Bytes w B bv) (hB : B ≤ w.heap.size) :
    Calls Tryd.prog 8 #[bv] w (OneNum (fun x => -1 ≤ x ∧ x ≤ 47482) w) := by
  go_enter Tryd.func8, Tryd.ntmps8
  go_wp2_with (fail)
  go_at_call 15
  refine (new_any B bv _ hby).mono ?_
  rintro e w1 ⟨h, rfl, rfl⟩
  go_wp2_with (fail)
  go_at_call 23
  refine (below_any w.heap.size B bv 47482 _ (made_cur bv h w) (bytes_alloc hby _) hB (by omega)).mono ?_
  rintro e w2 ⟨x, hx, rfl, hc2, hg2⟩
  have hy2 := bytes_kept (bytes_alloc hby _) hg2 hB
  have HX := Lib.hid (show 0 ≤ x ∧ x < 47482 from ⟨hx.1, by have := hx.1; have := hx.2; omega⟩)
  have HB2 := Lib.hid (below_gb ((Below.refl _ _).alloc (Nat.le_refl _) _) hg2 (by simp) (Nat.le_refl _))
  have H := int_lits w.heap.size B bv [0, 58, 59, 365, 789, 790, 47481, 47482, -1, 11016, x] 11 rfl w2 hc2 hy2 hB (by simp) (by simp) 3
  clear hx hg2 hc2 hy2
  go_wp2_with (fail)
  go_at_call 22
  refine H.mono ?_
  rintro e w3 ⟨z, hz, rfl, hc3, hg3⟩
  have HZ : Hid (-1 ≤ z ∧ z ≤ 47482) := Lib.hid (by have := HX.out; simp at hz; omega)
  have HB3 := Lib.hid (below_gb HB2.out hg3 HB2.out.size (Nat.le_refl _))
  clear hz hc3 hg3 H
  go_wp2
  go_ret
  exact ⟨_, HZ.out, rfl, HB3.out⟩

theorem not_cur {w : World} {c g o : Nat} {bv : Value} {B : Nat} {s : ByteArray} (hc : CurAt w c bv) (hy : Bytes w B bv) (h : w.cell? ⟨g, 0, none⟩ = some (.string s)) : g ≠ c := by
  intro e
  subst e
  obtain ⟨i, k, _, hb⟩ := hc
  have h0 := (cur_cells hb).1
  rw [h0] at h
  rcases hy with ⟨a, cap, rfl⟩ | ⟨b, off, len, cap, f, rfl, _⟩
  · cases h
  · cases h
set_option maxHeartbeats 2000000 in
theorem draw_pd (B : Nat) (bv : Value) (w : World) (hby : Bytes w B bv) (hB : B ≤ w.heap.size) :
    Calls Tryd.prog 11 #[bv] w (OneTy 40 w) := by
  go_enter Tryd.func11, Tryd.ntmps11
  go_wp2_with (fail)
  go_at_call 15
  refine (new_any B bv _ hby).mono ?_
  rintro e w1 ⟨h, rfl, rfl⟩
  go_wp2_with (fail)
  go_at_call 16
  refine (time_any w.heap.size B bv _ (made_cur bv h w) (bytes_alloc hby _) hB).mono ?_
  rintro e w2 ⟨x, hx, rfl, hc2, hg2⟩
  have hy2 := bytes_kept (bytes_alloc hby _) hg2 hB
  have HB2 := Lib.hid (below_gb ((Below.refl _ _).alloc (Nat.le_refl _) _) hg2 (by simp) (Nat.le_refl _))
  clear hx hg2
  by_cases hin : 0 ≤ x ∧ x ≤ 4102444799
  · have hcl := cur_lt hc2
    have HF := Lib.hid (Dt.spec_forms x w2 hin.1 hin.2)
    have HLN := Lib.hid (fun y m d (hcv : Dt.CV (x / 86400) y m d) => Dt.form_lens (t := x) hin hcv)
    unfold Dt.Forms at HF
    go_wp2_with (fail)
    go_at_call 26
    refine (NumDiv.in_yes x 0 4102444799 _ hin.1 hin.2).mono ?_
    rintro e w' ⟨rfl, rfl⟩
    go_wp2_with (fail)
    go_at_call 29
    refine HF.out.mono ?_
    rintro e w3 ⟨y, m, d, g, hcv, rfl, ⟨c0, c1, c2⟩, b3⟩
    have hc3 := cur_same hc2 (b3.block _ hcl)
    have hy3 := bytes_below hy2 (b3.mono (Nat.le_trans hB HB2.out.size))
    have HB3 := Lib.hid (Base.then_below HB2.out b3)
    obtain ⟨l1, l2, l3⟩ := HLN.out _ _ _ hcv
    have hgc : g ≠ w.heap.size := not_cur (o := 0) hc3 hy3 c0
    generalize Dt.form1 x y m d = s0 at c0 l1
    generalize Dt.form2 x y m d = s1 at c1 l2
    generalize Dt.form3 x y m d = s2 at c2 l3
    clear hc2 hy2 b3 HF HLN hcv hin
    go_wp2_with (fail)
    go_at_call 23
    refine (below_any w.heap.size B bv 3 _ hc3 hy3 hB (by omega)).mono ?_
    rintro e w4 ⟨k, hk, rfl, hc4, hg4⟩
    have hy4 := bytes_kept hy3 hg4 hB
    have HB4 := Lib.hid (below_gb HB3.out hg4 HB3.out.size (Nat.le_refl _))
    have d0 := hg4.cell c0 (by simpa using hgc)
    have d1 := hg4.cell c1 (by simpa using hgc)
    have d2 := hg4.cell c2 (by simpa using hgc)
    have hk3 : k = 0 ∨ k = 1 ∨ k = 2 := by have := hk.1; have := hk.2; omega
    clear c0 c1 c2 hk hc3 hy3 hg4 HB3 HB2
    obtain ⟨s, hs, hsc⟩ : ∃ s : List UInt8, s.length ≤ 33 ∧ w4.cell? ⟨g, k.toNat, none⟩ = some (.string ⟨s.toArray⟩) := by
      rcases hk3 with rfl | rfl | rfl
      · exact ⟨s0, l1, d0⟩
      · exact ⟨s1, l2, d1⟩
      · exact ⟨s2, l3, d2⟩
    obtain ⟨j, rfl, hj⟩ : ∃ j : Nat, k = (j : Int) ∧ j < 3 := ⟨k.toNat, by omega, by omega⟩
    rw [Int.toNat_natCast] at hsc
    clear d0 d1 d2 hk3 l1 l2 l3
    go_wp2_with (fail)
    go_at_call 28
    refine (bent_any w.heap.size B bv s w4 hc4 hy4 hB (by omega)).mono ?_
    rintro e w5 ⟨z, hz, rfl, hc5, hg5⟩
    have HZ : Hid (z.length ≤ 40) := Lib.hid (by have h2 : z.length ≤ s.length + 1 := hz; omega)
    have HB5 := Lib.hid (below_gb HB4.out hg5 HB4.out.size (Nat.le_refl _))
    clear hz hc4 hy4 hc5 hg5 hsc
    go_wp2
    go_ret
    exact ⟨_, HZ.out, rfl, HB5.out⟩
  · have H := str_lits w.heap.size B bv dtexts 10 rfl w2 hc2 hy2 hB (by decide) (by decide) 9
    go_wp2_with (fail)
    go_at_call 26
    refine (NumDiv.in_no x 0 4102444799 _ (by omega)).mono ?_
    rintro e w' ⟨rfl, rfl⟩
    go_wp2_with (fail)
    go_at_call 27
    refine H.mono ?_
    rintro e w3 ⟨z, hz, rfl, hc3, hg3⟩
    have HZ := Lib.hid (Nat.le_trans (dtexts_len z hz) (by decide : _ ≤ 40))
    have HB3 := Lib.hid (below_gb HB2.out hg3 HB2.out.size (Nat.le_refl _))
    clear hz hc3 hg3 H hc2 hy2
    go_wp2
    go_ret
    exact ⟨_, HZ.out, rfl, HB3.out⟩
end Go.Proofs.YtilephkbcikfbaaDoor.Cur
