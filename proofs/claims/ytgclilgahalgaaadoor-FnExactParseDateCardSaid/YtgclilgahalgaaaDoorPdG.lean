/-
  CONTRACT of the program's ParseDate; nothing that was there before is changed.
-/
import Derived.Test.YtgclilgahalgaaaDoorPdF
namespace Go.Proofs.YtgclilgahalgaaaDoor.Dt
open Go Go.RowKit
set_option linter.unusedVariables false

/-- The text is a date of this time. -/
def FA (l : List UInt8) (t : Int) : Prop := F1 l t ∨ F2 l t ∨ F3 l t
theorem fa_uniq {l : List UInt8} {t t' : Int} (h : FA l t) (h' : FA l t') : t = t' := by
  rcases h with h | h | h <;> rcases h' with h' | h' | h'
  · have a := (f1_read h).2; have b := (f1_read h').2; rw [a] at b; simpa using b
  · have a := (f1_read h).1; have b := (f2_read h').1.1; omega
  · have a := (f1_read h).1; have b := (f3_read h').1; omega
  · have a := (f2_read h).1.1; have b := (f1_read h').1; omega
  · have a := (f2_read h).2; have b := (f2_read h').2; rw [a] at b; simpa using b
  · have a := (f2_read h).1.1; have b := (f3_read h').1; omega
  · have a := (f3_read h).1; have b := (f1_read h').1; omega
  · have a := (f3_read h).1; have b := (f2_read h').1.1; omega
  · have a := (f3_read h).2; have b := (f3_read h').2; rw [a] at b; simpa using b
open Classical in
/-- What ParseDate answers, as a function. -/
noncomputable def pdate (l : List UInt8) : Int × Bool := if h : ∃ t, FA l t then (h.choose, true) else (0, false)
theorem pdate_yes {l : List UInt8} {t : Int} (h : FA l t) : pdate l = (t, true) := by
  have hx : ∃ t, FA l t := ⟨t, h⟩
  unfold pdate
  rw [dif_pos hx]
  exact Prod.ext (fa_uniq hx.choose_spec h) rfl
theorem pdate_no {l : List UInt8} (h : ∀ t, ¬ FA l t) : pdate l = (0, false) := by
  unfold pdate
  rw [dif_neg (fun ⟨t, ht⟩ => h t ht)]
theorem pdate_bd (l : List UInt8) : 0 ≤ (pdate l).1 ∧ (pdate l).1 ≤ 4102444799 := by
  by_cases h : ∃ t, FA l t
  · obtain ⟨t, ht⟩ := h
    rw [pdate_yes ht]
    rcases ht with h | h | h
    · exact h.1
    · exact h.1
    · exact h.1
  · rw [pdate_no (fun t ht => h ⟨t, ht⟩)]; simp only; omega
theorem pdate_nil : pdate [] = (0, false) := by
  apply pdate_no
  rintro t (h | h | h)
  · have := (f1_read h).1; simp at this
  · have := (f2_read h).1.1; simp at this
  · have := (f3_read h).1; simp at this
def PdEnd (p : Int × Bool) (w : World) (e : Ending) (w' : World) : Prop := e = .returned (.tuple #[.int .i64 p.1, .bool p.2]) ∧ Below w.heap.size w w'

set_option maxHeartbeats 1000000 in
theorem impl_pdate (l : List UInt8) (w : World) (hl : l.length ≤ 67108864) (ht : Mds w) (hn : Names w) (hten : Fmt.Tens w) :
    Calls Tryd.prog 5 #[.string ⟨l.toArray⟩] w (PdEnd (pdate l) w) := by
  have H1 := Lib.hid (impl_first l w hl ht hn hten)
  have H2 := Lib.hid (fun W (hb : Below w.heap.size w W) => impl_second l W hl (mds_below ht hb) (names_below hn hb) (Fmt.tens_below hten hb))
  have H3 := Lib.hid (fun W (hb : Below w.heap.size w W) => impl_third l W hl (mds_below ht hb) (names_below hn hb) (Fmt.tens_below hten hb))
  have HY := Lib.hid (fun t h => pdate_yes (l := l) (t := t) h)
  have HN := Lib.hid (fun (a : ∀ t, ¬ F1 l t) (b : ∀ t, ¬ F2 l t) (c : ∀ t, ¬ F3 l t) => pdate_no (l := l) (fun t h => by rcases h with h | h | h; exact a t h; exact b t h; exact c t h))
  unfold Reads at H1 H2 H3
  clear ht hn hten
  unfold PdEnd
  generalize pdate l = p at HY HN ⊢
  go_enter Tryd.func5, Tryd.ntmps5
  go_wp2_with (fail)
  go_at_call 11
  refine H1.out.mono ?_
  rintro e w1 ⟨⟨t, hf, rfl⟩ | ⟨hno, rfl⟩, hb1⟩
  · have HE := Lib.hid (HY.out t (show FA l t from Or.inl hf))
    have HB := Lib.hid hb1
    clear hf hb1
    go_wp2
    go_ret2
    exact ⟨by rw [HE.out]; rfl, HB.out⟩
  · have HN1 := Lib.hid hno
    have HB := Lib.hid hb1
    clear hno hb1
    go_wp2_with (fail)
    go_at_call 12
    refine (H2.out _ HB.out).mono ?_
    rintro e w2 ⟨⟨t, hf, rfl⟩ | ⟨hno, rfl⟩, hb1⟩
    · have HE := Lib.hid (HY.out t (show FA l t from Or.inr (Or.inl hf)))
      have HB := Lib.hid (Base.then_below HB.out hb1)
      clear hf hb1
      go_wp2
      go_ret2
      exact ⟨by rw [HE.out]; rfl, HB.out⟩
    · have HN2 := Lib.hid hno
      have HB := Lib.hid (Base.then_below HB.out hb1)
      clear hno hb1
      go_wp2_with (fail)
      go_at_call 13
      refine (H3.out _ HB.out).mono ?_
      rintro e w3 ⟨⟨t, hf, rfl⟩ | ⟨hno, rfl⟩, hb1⟩
      · have HE := Lib.hid (HY.out t (show FA l t from Or.inr (Or.inr hf)))
        have HB := Lib.hid (Base.then_below HB.out hb1)
        clear hf hb1
        go_wp2
        go_ret2
        exact ⟨by rw [HE.out]; rfl, HB.out⟩
      · have HE := Lib.hid (HN.out HN1.out HN2.out hno)
        have HB := Lib.hid (Base.then_below HB.out hb1)
        clear hno hb1
        go_wp2
        go_ret2
        exact ⟨by rw [HE.out]; rfl, HB.out⟩
end Go.Proofs.YtgclilgahalgaaaDoor.Dt
