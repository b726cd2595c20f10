/-
  CONTRACT of the model's MissingSpans: what a span has beside a set of spans, in memory of its own; nothing that was there before is changed.
-/
import Derived.Test.YtccdlbkpnmklcaaSpnMisA
import Derived.RegionTactic
import Derived.Deep.RegionWith
import Derived.Deep.AppendLies
import Derived.Deep.RegionHeldLaw
namespace Go.Proofs.Ytccdlbkpnmklcaa.Spn
open Go Go.RowKit
set_option linter.unusedVariables false

set_option maxHeartbeats 4000000 in
theorem spec_miss_yes (v : Value) (B : Nat) (l : List T) (p q : Int) (w : World) (h : Holds w B v l) (hB : B ≤ w.heap.size) (hl : l.length ≤ 1048576) (hset : isSet l = true) :
    Calls Try.prog 30 #[v, .agg #[.int .i64 p, .int .i64 q]] w (Missed (miss l (p, q)) w) := by
  obtain ⟨i0, hi, hz0, hz1, hz2⟩ := info_parts info_r
  have HKS : Hid (miss l (p, q) = addm (missf l (p, q)).1 ((missf l (p, q)).2, q)) := Lib.hid (by unfold miss keepset; rw [if_pos hset])
  have HBA : Hid (Below w.heap.size w (w.alloc (.cells #[.int .i64 p, .int .i64 q] 26))) := Lib.hid ((Below.refl _ _).alloc (Nat.le_refl _) _)
  have HS := Lib.hid (fun W (h : Holds W B v l) (hb : B ≤ W.heap.size) => spec_set v B l W h hb (by omega))
  rw [hset] at HS
  have HY0 := Lib.hid h
  obtain ⟨a, cap, rfl, ha⟩ := shape h
  have HA := Lib.hid ha
  have hbb : Below (w.alloc (.cells #[.int .i64 p, .int .i64 q] 26)).heap.size (w.alloc (.cells #[.int .i64 p, .int .i64 q] 26)) ((w.alloc (.cells #[.int .i64 p, .int .i64 q] 26)).alloc (.cells #[] 26)) := (Below.refl _ _).alloc (Nat.le_refl _) _
  have HO1 : Hid (Own ((w.alloc (.cells #[.int .i64 p, .int .i64 q] 26)).alloc (.cells #[] 26)) (w.heap.size + 1) (.slice (some ⟨w.heap.size + 1, 0, none⟩) 0 0) []) := Lib.hid (by have h9 := own_lit_nil (w.alloc (.cells #[.int .i64 p, .int .i64 q] 26)); rw [World.size_alloc] at h9; exact h9)
  have HX2 : Hid (((w.alloc (.cells #[.int .i64 p, .int .i64 q] 26)).alloc (.cells #[] 26)).cell? ⟨w.heap.size, 0, none⟩ = some (.int .i64 p) ∧ ((w.alloc (.cells #[.int .i64 p, .int .i64 q] 26)).alloc (.cells #[] 26)).cell? ⟨w.heap.size, 1, none⟩ = some (.int .i64 q)) := Lib.hid ⟨(hbb.cell (p := ⟨w.heap.size, 0, none⟩) (by simp)).trans (by rw [World.cell?_alloc_new]; rfl), (hbb.cell (p := ⟨w.heap.size, 1, none⟩) (by simp)).trans (by rw [World.cell?_alloc_new]; rfl)⟩
  have HB2 := Lib.hid (HBA.out.trans (hbb.mono (by simp)))
  clear ha h hset hbb
  rw [HKS.out]
  go_enter Try.func30, Try.ntmps30
  go_wp2
  go_loopw [5, 6, 7] (fun u at_ i wr => ∃ k : Nat, k ≤ l.length ∧ i = .int .i64 (k : Int) ∧ wr.ownsRow (w.heap.size + 1) 26 2 u (missf (l.take k) (p, q)).1.length (fcs (missf (l.take k) (p, q)).1) ∧ at_ = .int .i64 (missf (l.take k) (p, q)).2 ∧ Hid (wr.cell? ⟨w.heap.size, 0, none⟩ = some (.int .i64 p) ∧ wr.cell? ⟨w.heap.size, 1, none⟩ = some (.int .i64 q)) ∧ Below w.heap.size w wr) (fun _ _ i _ => l.length - (intOf i).toNat)
  case atStart => exact ⟨0, Nat.zero_le _, rfl, HO1.out, rfl, HX2, HB2.out⟩
  case round =>
    clear HO1 HX2 HB2
    obtain ⟨k, hk, rfl, hown, rfl, HXR, hb⟩ := hrel
    have HB := Lib.hid hb
    have HML := Lib.hid (Nat.le_trans (missf_len (l.take k) (p, q)) (by rw [List.length_take]; omega : (l.take k).length ≤ 1048576))
    have hbs := hb.size
    by_cases hlt : k < l.length
    · obtain ⟨b, off, rfl, hbw, hcap, hc⟩ := HA.out (by omega)
      have HSS := Lib.hid (HS.out wr (holds_below HY0.out (hb.mono hB)) (Nat.le_trans hB hbs))
      have HM := Lib.hid (missf_more (x := (p, q)) hlt)
      have HAT := Lib.hid (at_below hc hb (Nat.lt_of_lt_of_le hbw hB))
      have HBLT : Hid (b < wr.heap.size) := Lib.hid (Nat.lt_of_lt_of_le (Nat.lt_of_lt_of_le hbw hB) hbs)
      clear hb hc
      generalize missf (l.take k) (p, q) = mm at hown HM HML ⊢
      obtain ⟨m, n⟩ := mm
      simp only at hown HML
      have HO := Lib.hid hown
      clear hown
      go_wp2_with (fail)
      go_at_call 15
      refine HSS.out.mono ?_
      rintro e w1 ⟨rfl, hb1⟩
      have hwz : w.heap.size < wr.heap.size := Rec.lt_of_cell HXR.out.1
      obtain ⟨c0, c1⟩ := at_cells (at_below HAT.out hb1 HBLT.out) hlt
      have x0 : w1.cell? ⟨w.heap.size, 0, none⟩ = some (.int .i64 p) := (hb1.cell (p := ⟨w.heap.size, 0, none⟩) hwz).trans HXR.out.1
      have x1 : w1.cell? ⟨w.heap.size, 1, none⟩ = some (.int .i64 q) := (hb1.cell (p := ⟨w.heap.size, 1, none⟩) hwz).trans HXR.out.2
      have HX1 := Lib.hid (And.intro x0 x1)
      have hown := row_below HO.out hb1
      have HB1 := Lib.hid (Base.then_below HB.out hb1)
      have hn : l.getD k nov = l.getD k nos := rfl
      rw [hn] at c0 c1
      clear hn hb1
      generalize l.getD k nos = x at c0 c1 HM
      obtain ⟨x, y⟩ := x
      rw [mst_eq] at HM
      simp only at c0 c1
      by_cases h1 : n < x
      · have d1 : decide (n < x) = true := by simpa using h1
        by_cases h2 : n < q
        · have d2 : decide (n < q) = true := by simpa using h2
          have HE : Hid (addm m (n, min x q) = m ++ [(n, min x q)]) := Lib.hid (addm_yes (by show n < min x q; omega))
          rw [HE.out] at HM
          have HOO := Lib.hid hown
          have hgb : ∀ g, u5.ownBlock = some g → w.heap.size + 1 ≤ g ∧ g < w1.heap.size := fun g hg => hown.lt g hg
          have HGB := Lib.hid hgb
          have HBb : Hid (b < w.heap.size) := Lib.hid (Nat.lt_of_lt_of_le hbw hB)
          have hL := fcs_len m
          have hML := HML.out
          have SK : Hid (∀ w0 w2 : World, w0.cell? ⟨b, off + k * 2, none⟩ = some (.int .i64 x) → w0.cell? ⟨b, off + k * 2 + 1, none⟩ = some (.int .i64 y) → w0.cell? ⟨w.heap.size, 0, none⟩ = some (.int .i64 p) → w0.cell? ⟨w.heap.size, 1, none⟩ = some (.int .i64 q) → Hid (Below w.heap.size w w0) → w0.grownBy w2 u5.ownBlock → (w2.cell? ⟨b, off + k * 2, none⟩ = some (.int .i64 x) ∧ w2.cell? ⟨b, off + k * 2 + 1, none⟩ = some (.int .i64 y) ∧ w2.cell? ⟨w.heap.size, 0, none⟩ = some (.int .i64 p) ∧ w2.cell? ⟨w.heap.size, 1, none⟩ = some (.int .i64 q) ∧ Hid (Below w.heap.size w w2))) := Lib.hid (fun w0 w2 a1 a2 a3 a4 a5 a6 =>
            ⟨a6.cell a1 (fun e => by have h9 : w.heap.size + 1 ≤ b := (HGB.out _ e.symm).1; have := HBb.out; omega), a6.cell a2 (fun e => by have h9 : w.heap.size + 1 ≤ b := (HGB.out _ e.symm).1; have := HBb.out; omega), a6.cell a3 (fun e => Nat.not_succ_le_self _ (HGB.out _ e.symm).1), a6.cell a4 (fun e => Nat.not_succ_le_self _ (HGB.out _ e.symm).1), Lib.hid (a5.out.grown a6 a5.out.size (fun k e => by have := (HGB.out k e).1; omega))⟩)
          have SA : Hid (∀ (w0 : World) (o : Obj), w0.cell? ⟨b, off + k * 2, none⟩ = some (.int .i64 x) → w0.cell? ⟨b, off + k * 2 + 1, none⟩ = some (.int .i64 y) → w0.cell? ⟨w.heap.size, 0, none⟩ = some (.int .i64 p) → w0.cell? ⟨w.heap.size, 1, none⟩ = some (.int .i64 q) → Hid (Below w.heap.size w w0) → ((w0.alloc o).cell? ⟨b, off + k * 2, none⟩ = some (.int .i64 x) ∧ (w0.alloc o).cell? ⟨b, off + k * 2 + 1, none⟩ = some (.int .i64 y) ∧ (w0.alloc o).cell? ⟨w.heap.size, 0, none⟩ = some (.int .i64 p) ∧ (w0.alloc o).cell? ⟨w.heap.size, 1, none⟩ = some (.int .i64 q) ∧ Hid (Below w.heap.size w (w0.alloc o)))) := Lib.hid (fun w0 o a1 a2 a3 a4 a5 => by
            have hbA : Below w0.heap.size w0 (w0.alloc o) := (Below.refl _ _).alloc (Nat.le_refl _) _
            exact ⟨(hbA.cell (p := ⟨b, off + k * 2, none⟩) (Rec.lt_of_cell a1)).trans a1, (hbA.cell (p := ⟨b, off + k * 2 + 1, none⟩) (Rec.lt_of_cell a2)).trans a2, (hbA.cell (p := ⟨w.heap.size, 0, none⟩) (Rec.lt_of_cell a3)).trans a3, (hbA.cell (p := ⟨w.heap.size, 1, none⟩) (Rec.lt_of_cell a4)).trans a4, Lib.hid (Base.then_below a5.out hbA)⟩)
          have HSA : Hid (w1.cell? ⟨b, off + k * 2, none⟩ = some (.int .i64 x) ∧ w1.cell? ⟨b, off + k * 2 + 1, none⟩ = some (.int .i64 y) ∧ w1.cell? ⟨w.heap.size, 0, none⟩ = some (.int .i64 p) ∧ w1.cell? ⟨w.heap.size, 1, none⟩ = some (.int .i64 q) ∧ Hid (Below w.heap.size w w1)) := Lib.hid ⟨c0, c1, x0, x1, Lib.hid HB1.out⟩
          have HSD : Hid (w1.drew.cell? ⟨b, off + k * 2, none⟩ = some (.int .i64 x) ∧ w1.drew.cell? ⟨b, off + k * 2 + 1, none⟩ = some (.int .i64 y) ∧ w1.drew.cell? ⟨w.heap.size, 0, none⟩ = some (.int .i64 p) ∧ w1.drew.cell? ⟨w.heap.size, 1, none⟩ = some (.int .i64 q) ∧ Hid (Below w.heap.size w w1.drew)) := Lib.hid ⟨c0, c1, x0, x1, Lib.hid (Rec.below_drew HB1.out)⟩
          have HSC : Hid ((w1.alloc (.cells #[.int .i64 n, .int .i64 (min x q)] 26)).drew.cell? ⟨b, off + k * 2, none⟩ = some (.int .i64 x) ∧ (w1.alloc (.cells #[.int .i64 n, .int .i64 (min x q)] 26)).drew.cell? ⟨b, off + k * 2 + 1, none⟩ = some (.int .i64 y) ∧ (w1.alloc (.cells #[.int .i64 n, .int .i64 (min x q)] 26)).drew.cell? ⟨w.heap.size, 0, none⟩ = some (.int .i64 p) ∧ (w1.alloc (.cells #[.int .i64 n, .int .i64 (min x q)] 26)).drew.cell? ⟨w.heap.size, 1, none⟩ = some (.int .i64 q) ∧ Hid (Below w.heap.size w (w1.alloc (.cells #[.int .i64 n, .int .i64 (min x q)] 26)).drew)) := Lib.hid (by
            obtain ⟨a1, a2, a3, a4, a5⟩ := SA.out w1 (.cells #[.int .i64 n, .int .i64 (min x q)] 26) c0 c1 x0 x1 (Lib.hid HB1.out)
            exact ⟨a1, a2, a3, a4, Lib.hid (Rec.below_drew a5.out)⟩)
          have hq1 : w.heap.size + 1 ≤ w1.heap.size := by have h9 := Rec.lt_of_cell x0; exact h9
          have HOD := Lib.hid (World.ownsRow.drew (hown.alloc (.cells #[.int .i64 n, .int .i64 (min x q)] 26)))
          have HMIN := Lib.hid (fun W => min_s x q W)
          clear hgb hown h1 h2
          go_wp2_with (fail)
          go_region_held_law (fun w' => w'.cell? ⟨b, off + k * 2, none⟩ = some (.int .i64 x) ∧ w'.cell? ⟨b, off + k * 2 + 1, none⟩ = some (.int .i64 y) ∧ w'.cell? ⟨w.heap.size, 0, none⟩ = some (.int .i64 p) ∧ w'.cell? ⟨w.heap.size, 1, none⟩ = some (.int .i64 q) ∧ Hid (Below w.heap.size w w'))
            (first | exact HSA.out | exact HSD.out | exact HSC.out | go_keep | (go_split_ands; refine SA.out _ _ ?_ ?_ ?_ ?_ ?_ <;> assumption) | (go_split_ands; refine SK.out _ _ ?_ ?_ ?_ ?_ ?_ hgrow <;> assumption))
            (first | (go_at_call 47; refine (HMIN.out _).mono ?_; rintro e w2 ⟨rfl, rfl⟩) | (refine step_append_lies _ (by rfl) (.tmp 34) (.tmp 45) 24 (by rfl) (w.heap.size + 1) 26 i0 (.agg #[.int .i64 0, .int .i64 0]) 2 16 Try.underlying24 hi hz0 hz1 hz2 (by rfl) (by decide) _ _ _ (by rfl) HOD.out ⟨w1.heap.size, 0, none⟩ 1 1 [.int .i64 n, .int .i64 (min x q)] (by rfl) (by rfl) (Rec.news w1 [.int .i64 n, .int .i64 (min x q)] _) (cs_one (n, min x q)) (by decide) (by unfold maxLen; omega) (by omega) (by simp; omega) _ rfl ?_; intro g gcap w2 hown1 hgrow hat hglt))
          all_goals (
            go_split_ands
            have HKB := Lib.hid (Hid.out ‹Hid (Below w.heap.size w w2)›)
            have b0 : w2.cell? ⟨w.heap.size, 0, none⟩ = some (.int .i64 p) := by assumption
            have b1 : w2.cell? ⟨w.heap.size, 1, none⟩ = some (.int .i64 q) := by assumption
            have b2 : w2.cell? ⟨b, off + k * 2 + 1, none⟩ = some (.int .i64 y) := by assumption
            have HXE := Lib.hid (And.intro b0 b1)
            have HOW := Lib.hid hown1
            clear hown1 hgrow hat hglt
            go_wp2_with (fail)
            go_at_call 48
            refine (max_s n y _).mono ?_
            rintro e w3 ⟨rfl, rfl⟩
            go_wp2
            go_roundw
            case rel => exact ⟨k + 1, by omega, by go_num, by rw [HM.out]; show World.ownsRow _ _ _ _ _ _ _; rw [List.length_append, fcs_more]; exact HOW.out, by rw [HM.out], HXE, HKB.out⟩
            case measure => simp [intOf]; omega)
        · have d2 : decide (n < q) = false := by simpa using h2
          have HE : Hid (addm m (n, min x q) = m) := Lib.hid (addm_no (by show ¬ n < min x q; omega))
          rw [HE.out] at HM
          have HOO := Lib.hid hown
          clear hown h1 h2
          go_wp2_with (fail)
          go_at_call 48
          refine (max_s n y _).mono ?_
          rintro e w2 ⟨rfl, rfl⟩
          go_wp2
          go_roundw
          case rel => exact ⟨k + 1, by omega, by go_num, by rw [HM.out]; exact HOO.out, by rw [HM.out], HX1, HB1.out⟩
          case measure => simp [intOf]; omega
      · have d1 : decide (n < x) = false := by simpa using h1
        have HE : Hid (addm m (n, min x q) = m) := Lib.hid (addm_no (by show ¬ n < min x q; omega))
        rw [HE.out] at HM
        have HOO := Lib.hid hown
        clear hown h1
        go_wp2_with (fail)
        go_at_call 48
        refine (max_s n y _).mono ?_
        rintro e w2 ⟨rfl, rfl⟩
        go_wp2
        go_roundw
        case rel => exact ⟨k + 1, by omega, by go_num, by rw [HM.out]; exact HOO.out, by rw [HM.out], HX1, HB1.out⟩
        case measure => simp [intOf]; omega
    · have HE : Hid (l.take k = l) := Lib.hid (List.take_of_length_le (by omega))
      rw [HE.out] at hown HML ⊢
      clear HE
      generalize hmm : missf l (p, q) = mm at hown HML ⊢
      have HMM := Lib.hid hmm
      clear hmm
      obtain ⟨m, n⟩ := mm
      simp only at hown HML ⊢
      obtain ⟨b0, b1⟩ := HXR.out
      have hgb : ∀ g, u5.ownBlock = some g → w.heap.size + 1 ≤ g ∧ g < wr.heap.size := fun g hg => hown.lt g hg
      have HGB := Lib.hid hgb
      have hL := fcs_len m
      have hML := HML.out
      have hwz : w.heap.size + 1 ≤ wr.heap.size := Rec.lt_of_cell b0
      have HBW : Hid (Below w.heap.size w (wr.alloc (.cells #[.int .i64 n, .int .i64 q] 26))) := Lib.hid (HB.out.alloc HB.out.size _)
      clear hgb hb
      by_cases h1 : n < q
      · have HE : Hid (addm m (n, q) = m ++ [(n, q)]) := Lib.hid (addm_yes h1)
        have d1 : decide (n < q) = true := by simpa using h1
        go_wp2_with (at_builtin; refine wpList_append_own _ rfl (.tmp 58) (.tmp 63) 24 rfl (w.heap.size + 1) 26 i0 (.agg #[.int .i64 0, .int .i64 0]) 2 16 Try.underlying24 hi hz0 hz1 hz2 rfl (by decide) _ _ _ rfl (hown.alloc _) ⟨wr.heap.size, 0, none⟩ 1 1 [.int .i64 n, .int .i64 q] rfl rfl (Rec.news _ _ _) (cs_one (n, q)) (by unfold maxLen; omega) (by omega) (by simp; omega) ?_; intro v1 w2 hown1 hg1 _)
        have HO : Hid (Own w2 w.heap.size v1 (m ++ [(n, q)])) := Lib.hid (own_mono (by show World.ownsRow _ _ _ _ _ _ _; rw [List.length_append, fcs_more]; exact hown1) (Nat.le_succ _))
        have HBB := Lib.hid (HBW.out.grown hg1 HBW.out.size (fun k e => by have := (HGB.out k e).1; omega))
        clear hown hown1 hg1
        go_wp2
        go_ret
        exact ⟨_, rfl, by rw [HMM.out, HE.out]; exact HO.out, HBB.out⟩
      · have HE : Hid (addm m (n, q) = m) := Lib.hid (addm_no h1)
        have d1 : decide (n < q) = false := by simpa using h1
        have HO := Lib.hid (own_mono hown (Nat.le_succ _))
        clear hown
        go_wp2
        go_ret
        exact ⟨_, rfl, by rw [HMM.out, HE.out]; exact HO.out, HB.out⟩
end Go.Proofs.Ytccdlbkpnmklcaa.Spn
