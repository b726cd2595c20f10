/-
  CONTRACT of the program's MissingSpans where the list is a set of spans.
-/
import Derived.Test.YtegaakgmfphcaaaSpnMisA
import Derived.Deep.RegionHeld3
namespace Go.Proofs.Ytegaakgmfphcaaa.Spn
open Go Go.RowKit
set_option linter.unusedVariables false
set_option maxRecDepth 1000000

set_option maxHeartbeats 4000000 in
/-- The loop over a set, and what is left behind it. -/
theorem impl_miss_yes (v : Value) (B : Nat) (l : List T) (p q : Int) (w : World) (h : Holds w B v l) (hB : B ≤ w.heap.size) (hl : l.length ≤ 1048576) (hset : isSet l = true) :
    Calls Try.prog 8 #[v, .agg #[.int .i64 p, .int .i64 q]] w (Missed (miss l (p, q)) w) := by
  have HKS : Hid (miss l (p, q) = addm (missf l (p, q)).1 ((missf l (p, q)).2, q)) := Lib.hid (by unfold miss keepset; rw [if_pos hset])
  have HBA : Hid (Below w.heap.size w (w.alloc (.cells #[.int .i64 p, .int .i64 q] 26))) := Lib.hid ((Below.refl _ _).alloc (Nat.le_refl _) _)
  have HX : Hid ((w.alloc (.cells #[.int .i64 p, .int .i64 q] 26)).cell? ⟨w.heap.size, 0, none⟩ = some (.int .i64 p) ∧ (w.alloc (.cells #[.int .i64 p, .int .i64 q] 26)).cell? ⟨w.heap.size, 1, none⟩ = some (.int .i64 q) ∧ (w.alloc (.cells #[.int .i64 p, .int .i64 q] 26)).frozen? ⟨w.heap.size, 0, none⟩ = false) := Lib.hid ⟨by rw [World.cell?_alloc_new]; rfl, by rw [World.cell?_alloc_new]; rfl, by simp [go_sem]⟩
  have HS := Lib.hid (fun W (h : Holds W B v l) (hb : B ≤ W.heap.size) => impl_set v B l W h hb (by omega))
  rw [hset] at HS
  have HY0 := Lib.hid h
  have HY := Lib.hid (holds_below h (HBA.out.mono hB))
  obtain ⟨a, cap, rfl, ha⟩ := shape h
  have HA := Lib.hid ha
  clear ha h hset
  rw [HKS.out]
  go_enter Try.func8, Try.ntmps8
  go_wp2_with (fail)
  go_at_call 14
  refine (HS.out _ HY.out (by simp; omega)).mono ?_
  rintro e w1 ⟨rfl, hb⟩
  have HX1 : Hid (w1.cell? ⟨w.heap.size, 0, none⟩ = some (.int .i64 p) ∧ w1.cell? ⟨w.heap.size, 1, none⟩ = some (.int .i64 q) ∧ w1.frozen? ⟨w.heap.size, 0, none⟩ = false) := Lib.hid ⟨(hb.cell (p := ⟨w.heap.size, 0, none⟩) (by simp)).trans HX.out.1, (hb.cell (p := ⟨w.heap.size, 1, none⟩) (by simp)).trans HX.out.2.1, (hb.frozen (p := ⟨w.heap.size, 0, none⟩) (by simp)).trans HX.out.2.2⟩
  have HB1 := Lib.hid (HBA.out.trans (hb.mono (by simp)))
  have hz1 : w.heap.size + 1 ≤ w1.heap.size := by have := hb.size; simp at this; omega
  have HO1 : Hid (Own (w1.alloc (.cells #[] 26)) (w.heap.size + 1) (.slice (some ⟨w1.heap.size, 0, none⟩) 0 0) []) := Lib.hid (own_mono (own_lit_nil w1) hz1)
  have HX2 : Hid ((w1.alloc (.cells #[] 26)).cell? ⟨w.heap.size, 0, none⟩ = some (.int .i64 p) ∧ (w1.alloc (.cells #[] 26)).cell? ⟨w.heap.size, 1, none⟩ = some (.int .i64 q) ∧ (w1.alloc (.cells #[] 26)).frozen? ⟨w.heap.size, 0, none⟩ = false) := Lib.hid (by
    have hbb : Below w1.heap.size w1 (w1.alloc (.cells #[] 26)) := (Below.refl _ _).alloc (Nat.le_refl _) _
    exact ⟨(hbb.cell (p := ⟨w.heap.size, 0, none⟩) (by show w.heap.size < _; omega)).trans HX1.out.1, (hbb.cell (p := ⟨w.heap.size, 1, none⟩) (by show w.heap.size < _; omega)).trans HX1.out.2.1, (hbb.frozen (p := ⟨w.heap.size, 0, none⟩) (by show w.heap.size < _; omega)).trans HX1.out.2.2⟩)
  have HB2 := Lib.hid (HB1.out.alloc HB1.out.size (.cells #[] 26))
  clear hb
  go_wp2
  go_loopw [5, 14] (fun u i wr => ∃ k : Nat, k ≤ l.length ∧ i = .int .i64 (k : Int) ∧ wr.ownsRow (w.heap.size + 1) 26 2 u (missf (l.take k) (p, q)).1.length (fcs (missf (l.take k) (p, q)).1) ∧ Hid (wr.cell? ⟨w.heap.size, 0, none⟩ = some (.int .i64 (missf (l.take k) (p, q)).2) ∧ wr.cell? ⟨w.heap.size, 1, none⟩ = some (.int .i64 q) ∧ wr.frozen? ⟨w.heap.size, 0, none⟩ = false) ∧ Below w.heap.size w wr) (fun _ i _ => l.length - (intOf i).toNat)
  case atStart => exact ⟨0, Nat.zero_le _, rfl, HO1.out, HX2, HB2.out⟩
  case round =>
    clear HO1 HX2 HB2 HX1 HB1
    obtain ⟨k, hk, rfl, hown, HXR, hb⟩ := hrel
    have HB := Lib.hid hb
    have HML := Lib.hid (Nat.le_trans (missf_len (l.take k) (p, q)) (by rw [List.length_take]; omega : (l.take k).length ≤ 1048576))
    by_cases hlt : k < l.length
    · obtain ⟨b, off, rfl, hbw, hcap, hc⟩ := HA.out (by omega)
      obtain ⟨c0, c1⟩ := at_cells (at_below hc hb (Nat.lt_of_lt_of_le hbw hB)) hlt
      have HM := Lib.hid (missf_more (x := (p, q)) hlt)
      have hn : l.getD k nov = l.getD k nos := rfl
      rw [hn] at c0 c1
      clear hb hc hn
      generalize l.getD k nos = x at c0 c1 HM
      obtain ⟨x, y⟩ := x
      simp only at c0 c1 HM
      generalize missf (l.take k) (p, q) = mm at hown HXR HM HML
      obtain ⟨m, n⟩ := mm
      rw [mst_eq] at HM
      simp only at hown HXR HML
      have hgb : ∀ g, u5.ownBlock = some g → w.heap.size + 1 ≤ g ∧ g < wr.heap.size := fun g hg => hown.lt g hg
      have HGB := Lib.hid hgb
      have hbA : Below wr.heap.size wr (wr.alloc (.cells #[.int .i64 x, .int .i64 y] 26)) := (Below.refl _ _).alloc (Nat.le_refl _) _
      have HOA := Lib.hid (row_below hown hbA)
      have HBA2 := Lib.hid (Base.then_below HB.out hbA)
      have hwz : w.heap.size < wr.heap.size := Rec.lt_of_cell HXR.out.1
      have HSA : Hid ((wr.alloc (.cells #[.int .i64 x, .int .i64 y] 26)).cell? ⟨w.heap.size, 0, none⟩ = some (.int .i64 n) ∧ (wr.alloc (.cells #[.int .i64 x, .int .i64 y] 26)).cell? ⟨w.heap.size, 1, none⟩ = some (.int .i64 q) ∧ (wr.alloc (.cells #[.int .i64 x, .int .i64 y] 26)).cell? ⟨wr.heap.size, 0, none⟩ = some (.int .i64 x) ∧ (wr.alloc (.cells #[.int .i64 x, .int .i64 y] 26)).cell? ⟨wr.heap.size, 1, none⟩ = some (.int .i64 y) ∧ Hid (KeptS w (wr.alloc (.cells #[.int .i64 x, .int .i64 y] 26)))) := Lib.hid ⟨(hbA.cell (p := ⟨w.heap.size, 0, none⟩) hwz).trans HXR.out.1, (hbA.cell (p := ⟨w.heap.size, 1, none⟩) hwz).trans HXR.out.2.1, by rw [World.cell?_alloc_new]; rfl, by rw [World.cell?_alloc_new]; rfl, Lib.hid ⟨HBA2.out, (hbA.frozen (p := ⟨w.heap.size, 0, none⟩) hwz).trans HXR.out.2.2, Nat.lt_of_lt_of_le hwz hbA.size⟩⟩
      have HSD : Hid ((wr.alloc (.cells #[.int .i64 x, .int .i64 y] 26)).drew.cell? ⟨w.heap.size, 0, none⟩ = some (.int .i64 n) ∧ (wr.alloc (.cells #[.int .i64 x, .int .i64 y] 26)).drew.cell? ⟨w.heap.size, 1, none⟩ = some (.int .i64 q) ∧ (wr.alloc (.cells #[.int .i64 x, .int .i64 y] 26)).drew.cell? ⟨wr.heap.size, 0, none⟩ = some (.int .i64 x) ∧ (wr.alloc (.cells #[.int .i64 x, .int .i64 y] 26)).drew.cell? ⟨wr.heap.size, 1, none⟩ = some (.int .i64 y) ∧ Hid (KeptS w (wr.alloc (.cells #[.int .i64 x, .int .i64 y] 26)).drew)) := Lib.hid ⟨HSA.out.1, HSA.out.2.1, HSA.out.2.2.1, HSA.out.2.2.2.1, Lib.hid ⟨Rec.below_drew HBA2.out, HSA.out.2.2.2.2.out.2.1, HSA.out.2.2.2.2.out.2.2⟩⟩
      have SK : Hid (∀ w0 w1 : World, w0.cell? ⟨w.heap.size, 0, none⟩ = some (.int .i64 n) → w0.cell? ⟨w.heap.size, 1, none⟩ = some (.int .i64 q) → w0.cell? ⟨wr.heap.size, 0, none⟩ = some (.int .i64 x) → w0.cell? ⟨wr.heap.size, 1, none⟩ = some (.int .i64 y) → Hid (KeptS w w0) → w0.grownBy w1 u5.ownBlock → (w1.cell? ⟨w.heap.size, 0, none⟩ = some (.int .i64 n) ∧ w1.cell? ⟨w.heap.size, 1, none⟩ = some (.int .i64 q) ∧ w1.cell? ⟨wr.heap.size, 0, none⟩ = some (.int .i64 x) ∧ w1.cell? ⟨wr.heap.size, 1, none⟩ = some (.int .i64 y) ∧ Hid (KeptS w w1))) := Lib.hid (fun w0 w1 a1 a2 a3 a4 a5 a6 =>
        ⟨a6.cell a1 (fun e => Nat.not_succ_le_self _ (HGB.out _ e.symm).1), a6.cell a2 (fun e => Nat.not_succ_le_self _ (HGB.out _ e.symm).1), a6.cell a3 (fun e => Nat.lt_irrefl _ (HGB.out _ e.symm).2), a6.cell a4 (fun e => Nat.lt_irrefl _ (HGB.out _ e.symm).2), Lib.hid (kept_grown a5.out a6 (fun k e => by have := HGB.out k e; omega))⟩)
      have HMIN := Lib.hid (min_i x q)
      have HMAX := Lib.hid (max_i n y)
      have HADD := Lib.hid (fun W (h : Own W (w.heap.size + 1) u5 m) (hz : w.heap.size + 1 ≤ W.heap.size) => add_missing u5 (w.heap.size + 1) m n (min x q) W h hz (by have := HML.out; omega))
      have hz9 : w.heap.size + 1 ≤ (wr.alloc (.cells #[.int .i64 x, .int .i64 y] 26)).heap.size := by simp; omega
      clear hown hgb hbA
      go_wp2
      go_region_held3 (fun w' => w'.cell? ⟨w.heap.size, 0, none⟩ = some (.int .i64 n) ∧ w'.cell? ⟨w.heap.size, 1, none⟩ = some (.int .i64 q) ∧ w'.cell? ⟨wr.heap.size, 0, none⟩ = some (.int .i64 x) ∧ w'.cell? ⟨wr.heap.size, 1, none⟩ = some (.int .i64 y) ∧ Hid (KeptS w w'))
        (first | exact HSA.out | exact HSD.out | go_keep | (go_split_ands; refine SK.out _ _ ?_ ?_ ?_ ?_ ?_ hg1 <;> assumption))
        (first | (go_at_call 24; refine (HMIN.out _).mono ?_; rintro e w1 ⟨rfl, rfl⟩) | (go_at_call 23; refine (HADD.out _ (World.ownsRow.drew HOA.out) hz9).mono ?_; rintro e w1 ⟨v1, rfl, hown1, hg1⟩))
      all_goals (
        go_split_ands
        have HKEPT := Lib.hid (Hid.out ‹Hid (KeptS w w1)›)
        have HOWN := Lib.hid hown1
        have b0 : w1.cell? ⟨w.heap.size, 0, none⟩ = some (.int .i64 n) := by assumption
        have b1 : w1.cell? ⟨w.heap.size, 1, none⟩ = some (.int .i64 q) := by assumption
        have HCC : Hid ((w1.setCell ⟨w.heap.size, 0, none⟩ (.int .i64 (max n y))).cell? ⟨w.heap.size, 0, none⟩ = some (.int .i64 (max n y)) ∧ (w1.setCell ⟨w.heap.size, 0, none⟩ (.int .i64 (max n y))).cell? ⟨w.heap.size, 1, none⟩ = some (.int .i64 q) ∧ (w1.setCell ⟨w.heap.size, 0, none⟩ (.int .i64 (max n y))).frozen? ⟨w.heap.size, 0, none⟩ = false) := Lib.hid ⟨World.cell?_setCell_same _ _ _ b0, (World.cell?_setCell_other _ _ _ _ (by simp)).trans b1, (World.frozen?_setCell _ _ _ _).trans HKEPT.out.2.1⟩
        have fz := HKEPT.out.2.1
        clear hown1 hg1
        go_wp2_with (fail)
        go_at_call 25
        refine (HMAX.out _).mono ?_
        rintro e w2 ⟨rfl, rfl⟩
        go_wp2
        go_roundw
        case rel => exact ⟨k + 1, by omega, by go_num, by rw [HM.out]; exact ownsRow_setCell_below HOWN.out (by show w.heap.size < _; omega) _, by rw [HM.out]; exact HCC, HKEPT.out.1.setCell (Nat.le_refl _) _⟩
        case measure => simp [intOf]; omega)
    · have HE : Hid (l.take k = l) := Lib.hid (List.take_of_length_le (by omega))
      rw [HE.out] at hown HXR HML
      clear HE
      generalize hmm : missf l (p, q) = mm at hown HXR HML
      have HMM := Lib.hid hmm
      clear hmm
      obtain ⟨m, n⟩ := mm
      simp only at hown HXR HML
      have b0 := HXR.out.1
      have b1 := HXR.out.2.1
      have hgb : ∀ g, u5.ownBlock = some g → w.heap.size + 1 ≤ g ∧ g < wr.heap.size := fun g hg => hown.lt g hg
      have HGB := Lib.hid hgb
      have hwz : w.heap.size < wr.heap.size := Rec.lt_of_cell b0
      have HADD := Lib.hid (add_missing u5 (w.heap.size + 1) m n q wr hown (by omega) (by have := HML.out; omega))
      clear hown hgb hb
      go_wp2_with (fail)
      go_at_call 23
      refine HADD.out.mono ?_
      rintro e w1 ⟨v1, rfl, hown1, hg1⟩
      have HOWN := Lib.hid (own_mono hown1 (Nat.le_succ _))
      have HBB := Lib.hid (HB.out.grown hg1 HB.out.size (fun k e => by have := HGB.out k e; omega))
      clear hown1 hg1
      go_wp2
      go_ret
      exact ⟨v1, rfl, by rw [HMM.out]; exact HOWN.out, HBB.out⟩

end Go.Proofs.Ytegaakgmfphcaaa.Spn
