/-
  CONTRACT of joinSpans: of spans in a slice that the call has built it makes the joined ones, in their order, in new memory; but for that slice nothing is changed.
-/
import Derived.Test.YtegaakgmfphcaaaSpnSrt
import Derived.Test.YtegaakgmfphcaaaSpnMm
import Derived.StillTailTactics
import Derived.Deep.QuietTactic
import Derived.BigQuiet
namespace Go.Proofs.Ytegaakgmfphcaaa.Spn
open Go Go.RowKit
set_option linter.unusedVariables false
set_option maxRecDepth 1000000

def Joined (d : List T) (g : Nat) (w : World) (e : Ending) (w' : World) : Prop := ∃ v d', d'.Perm d ∧ sorted d' ∧ e = .returned v ∧ Own w' w.heap.size v (join d') ∧ w.grownBy w' (some g)
theorem at_zero {w : World} {g : Nat} {l : List T} (h : At w g 0 l) {k : Nat} (hk : k < l.length) : w.cell? ⟨g, k * 2, none⟩ = some (.int .i64 (l.getD k nos).1) ∧ w.cell? ⟨g, k * 2 + 1, none⟩ = some (.int .i64 (l.getD k nos).2) := by
  have h1 := at_cells h hk
  rw [Nat.zero_add] at h1; exact h1
theorem join_take {d : List T} {k : Nat} (h : k < d.length) : join (d.take (k + 1)) = jstep (join (d.take k)) (d.getD k nos) := by
  rw [List.take_succ_eq_append_getElem h, join_more, getD_at h]
theorem join_take_len (d : List T) (k : Nat) : (join (d.take k)).length ≤ k := Nat.le_trans (join_len _) (by rw [List.length_take]; omega)
theorem fcs_last (a : List T) (t : T) (z : Int) : (fcs (a ++ [t])).set (a.length * 2 + 1) (.int .i64 z) = fcs (a ++ [(t.1, z)]) := by
  rw [fcs_more, fcs_more, List.set_append_right _ _ (by rw [fcs_len]; omega), fcs_len, show a.length * 2 + 1 - a.length * 2 = 1 by omega]; rfl
theorem last_cells {w : World} {B g cap : Nat} {a : List T} {t : T} (h : Own w B (.slice (some ⟨g, 0, none⟩) (a ++ [t]).length cap) (a ++ [t])) : w.cell? ⟨g, a.length * 2, none⟩ = some (.int .i64 t.1) ∧ w.cell? ⟨g, a.length * 2 + 1, none⟩ = some (.int .i64 t.2) := by
  have h1 := own_cells h (j := a.length) (by simp)
  have e : (a ++ [t]).getD a.length nov = t := by simp [List.getD]
  rw [e] at h1; exact h1

theorem own_drewN {w : World} {B m : Nat} {T : TypeId} {s : Nat} {v : Value} {xs : List Value} (h : w.ownsRow B T s v m xs) (n : Nat) : (w.drewN n).ownsRow B T s v m xs := h
theorem box_drewN (wr : World) (x y : Int) (n : Nat) : ((wr.alloc (.cells #[.int .i64 x, .int .i64 y] 26)).drewN n).cell? ⟨wr.heap.size, 0, none⟩ = some (.int .i64 x) ∧ ((wr.alloc (.cells #[.int .i64 x, .int .i64 y] 26)).drewN n).cell? ⟨wr.heap.size, 1, none⟩ = some (.int .i64 y) :=
  ⟨by show (wr.alloc _).cell? _ = _; rw [World.cell?_alloc_new]; rfl, by show (wr.alloc _).cell? _ = _; rw [World.cell?_alloc_new]; rfl⟩

set_option maxHeartbeats 4000000 in
theorem join_spans (B g cap : Nat) (d : List T) (w : World) (ho : w.ownsRow B 26 2 (.slice (some ⟨g, 0, none⟩) d.length cap) d.length (fcs d)) (hl : d.length ≤ 4194304) :
    Calls Try.prog 22 #[.slice (some ⟨g, 0, none⟩) d.length cap] w (Joined d g w) := by
  obtain ⟨i0, hi, hz0, hz1, hz2⟩ := info_parts info_r
  have HS := Lib.hid (sort_spans B g cap d w ho (by omega))
  have HG := Lib.hid (ho.lt g rfl).2
  clear ho
  go_enter Try.func22, Try.ntmps22
  go_wp2_with (fail)
  go_at_call 32
  refine HS.out.mono ?_
  rintro e w1 ⟨rfl, d', hp, hsd, hat, hgr⟩
  have HP := Lib.hid hp
  have HSD := Lib.hid hsd
  have HAT := Lib.hid hat
  have HGR := Lib.hid hgr
  have HG1 := Lib.hid (Nat.lt_of_lt_of_le HG.out hgr.size)
  have HLN := Lib.hid hp.length_eq
  have HO := Lib.hid (own_lit_nil w1)
  have HB := Lib.hid ((Below.refl w1.heap.size w1).alloc (Nat.le_refl _) (.cells #[] 26))
  clear hp hsd hat hgr HS
  go_wp2
  go_loopw [3, 12] (fun u i wr => ∃ k : Nat, k ≤ d.length ∧ i = .int .i64 (k : Int) ∧ wr.ownsRow w1.heap.size 26 2 u (join (d'.take k)).length (fcs (join (d'.take k))) ∧ Below w1.heap.size w1 wr) (fun _ i _ => d.length - (intOf i).toNat)
  case atStart => exact ⟨0, Nat.zero_le _, rfl, HO.out, HB.out⟩
  case round =>
    clear HO HB
    obtain ⟨k, hk, rfl, hown, hb⟩ := hrel
    have HB := Lib.hid hb
    by_cases hlt : k < d.length
    · obtain ⟨c0, c1⟩ := at_zero (at_below HAT.out hb HG1.out) (k := k) (by rw [HLN.out]; exact hlt)
      have HM := Lib.hid (join_take (d := d') (k := k) (by rw [HLN.out]; exact hlt))
      have HML := Lib.hid (join_take_len d' k)
      have hbz := hb.size
      clear hb
      generalize d'.getD k nos = x at c0 c1 HM
      obtain ⟨x, y⟩ := x
      simp only at c0 c1
      generalize join (d'.take k) = m at hown HM HML
      have HA : Hid (Below wr.heap.size wr (wr.alloc (.cells #[.int .i64 x, .int .i64 y] 26))) := Lib.hid ((Below.refl _ _).alloc (Nat.le_refl _) _)
      have HB := Lib.hid (Base.then_below HB.out HA.out)
      have hown := row_below hown HA.out
      rcases List.eq_nil_or_concat m with rfl | ⟨a, t, rfl⟩
      · have HO := Lib.hid hown
        obtain ⟨au, cu, rfl, _⟩ := Rec.shape_at HO.out
        rw [jstep_nil] at HM
        clear hown
        go_wp2
        go_quiet (fail)
        have HB := Lib.hid (Rec.below_drewN HB.out nq)
        obtain ⟨b0, b1⟩ := box_drewN wr x y nq
        have hown := own_drewN HO.out nq
        have hwz : wr.heap.size < ((wr.alloc (.cells #[.int .i64 x, .int .i64 y] 26)).drewN nq).heap.size := Rec.lt_of_cell b0
        clear HO c0 c1
        generalize (wr.alloc (.cells #[.int .i64 x, .int .i64 y] 26)).drewN nq = W at b0 b1 hown HB hwz ⊢
        have hL := fcs_len []
        have hWz := HB.out.size
        go_wp2_with (at_builtin; go_loud (refine wpList_append_own _ rfl (.tmp 43) (.tmp 45) 24 rfl w1.heap.size 26 i0 (.agg #[.int .i64 0, .int .i64 0]) 2 16 Try.underlying24 hi hz0 hz1 hz2 rfl (by decide) _ _ _ rfl (hown.alloc _) ⟨W.heap.size, 0, none⟩ 1 1 [.int .i64 x, .int .i64 y] rfl rfl (Rec.news _ _ _) (cs_one (x, y)) (by unfold maxLen; first | omega | (simp; omega) | (simp; done)) (by first | omega | (simp; omega) | (simp; done)) (by first | omega | (simp; omega) | (simp; done)) ?_; intro v1 w2 hown1 hg1 _))
        have R := Lib.hid (push_own (l := []) (f := (x, y)) hown HB.out (Nat.le_refl _) hown1 hg1)
        clear hown hown1 hg1
        go_wp2
        go_roundw
        case rel => exact ⟨k + 1, by omega, by go_num, by rw [HM.out]; exact R.out.1, R.out.2⟩
        case measure => simp [intOf]; omega
      · rw [List.concat_eq_append] at *
        obtain ⟨t1, t2⟩ := t
        obtain ⟨gs, cu, rfl⟩ : ∃ gs cu, u3 = .slice (some ⟨gs, 0, none⟩) (a ++ [(t1, t2)]).length cu := by
          obtain ⟨au, cu, e, h⟩ := Rec.shape_at hown
          obtain ⟨gs, rfl⟩ := h (by simp)
          exact ⟨gs, cu, e⟩
        have hq : (a ++ [(t1, t2)]).length = a.length + 1 := by simp
        obtain ⟨l0, l1⟩ := last_cells hown
        simp only at l0 l1
        have HO := Lib.hid hown
        have HQ := Lib.hid hq
        have HGS := Lib.hid (hown.lt gs rfl)
        have d0 : decide (0 ≤ (a.length : Int)) = true := by simp
        have hqi : (a.length : Int) < (((a ++ [(t1, t2)]).length : Nat) : Int) := by rw [hq]; omega
        have hql : a.length ≤ 4194304 := by have := HML.out; omega
        clear hown HML
        by_cases hx : x ≤ t2
        · skip
          rw [jstep_hit a hx] at HM
          rw [hq] at hqi ⊢
          clear hq
          go_wp2
          go_quiet (fail)
          have HB := Lib.hid (Rec.below_drewN HB.out nq)
          obtain ⟨b0, b1⟩ := box_drewN wr x y nq
          have hown : World.ownsRow ((wr.alloc (.cells #[.int .i64 x, .int .i64 y] 26)).drewN nq) w1.heap.size 26 2 (.slice (some ⟨gs, 0, none⟩) (a.length + 1) cu) (a.length + 1) (fcs (a ++ [(t1, t2)])) := by have h := own_drewN HO.out nq; rw [HQ.out] at h; exact h
          have hwz : wr.heap.size < ((wr.alloc (.cells #[.int .i64 x, .int .i64 y] 26)).drewN nq).heap.size := Rec.lt_of_cell b0
          have lw : ((wr.alloc (.cells #[.int .i64 x, .int .i64 y] 26)).drewN nq).cell? ⟨gs, a.length * 2 + 1, none⟩ = some (.int .i64 t2) := l1
          clear HO c0 c1 l0 l1
          generalize (wr.alloc (.cells #[.int .i64 x, .int .i64 y] 26)).drewN nq = W at b0 b1 hown HB hwz lw ⊢
          have HMX : Hid (∀ U : World, Calls Try.prog 25 #[.int .i64 t2, .int .i64 y] U fun e w'' => e = .returned (.int .i64 (max t2 y)) ∧ w'' = U) := Lib.hid (fun U => (max_i t2 y U).mono fun _ _ h => ⟨h.1, h.2.symm⟩)
          have HB := Lib.hid (Rec.below_drew HB.out)
          have b0 : W.drew.cell? _ = _ := b0
          have b1 : W.drew.cell? _ = _ := b1
          have lw : W.drew.cell? _ = _ := lw
          have hown : World.ownsRow W.drew _ _ _ _ _ _ := hown
          have fw : W.drew.frozen? ⟨gs, a.length * 2 + 1, none⟩ = false := hown.frozenAt _
          have ST := Lib.hid (hown.stored (a.length * 2 + 1) (.int .i64 (max t2 y)))
          rw [fcs_last] at ST
          clear hown
          go_wp2
          have hqj : (a.length : Int) < (a.length : Int) + 1 := by omega
          refine wp_region_still_tail 12 (by kernel_rfl) (by kernel_rfl) ?_
          show wpStill _ _ W.drew (fun a' => wpList _ _ _ _ a' W.drew) _ _
          generalize W.drew = V at b0 b1 lw fw ST HB ⊢
          simp only [List.take_succ_cons, List.take_zero, List.drop_succ_cons, List.drop_zero]
          repeat (first | still_step | still_call (HMX.out _) | (refine wpStill_step (fun K hK => ?_); go_simp; simp only [if_pos hqj]; refine ⟨trivial, hK _ ?_⟩; clear hK K) | (refine wpStill_step (fun K hK => ?_); go_simp; simp only [if_pos hqj, true_and]; refine hK _ ?_; clear hK K))
          refine wpStill_nil ?_
          go_wp2
          go_roundw
          case rel => exact ⟨k + 1, by omega, by go_num, by rw [HM.out, show (a ++ [(t1, max t2 y)]).length = a.length + 1 by simp]; exact ST.out.1, HB.out.setCell HGS.out.1 _⟩
          case measure => simp [intOf]; omega
        · skip
          rw [jstep_miss a hx] at HM
          have dx : decide (x ≤ t2) = false := by simpa using hx
          rw [hq] at hqi ⊢
          clear hq
          go_wp2
          go_quiet (fail)
          have HB := Lib.hid (Rec.below_drewN HB.out nq)
          obtain ⟨b0, b1⟩ := box_drewN wr x y nq
          have hown : World.ownsRow ((wr.alloc (.cells #[.int .i64 x, .int .i64 y] 26)).drewN nq) w1.heap.size 26 2 (.slice (some ⟨gs, 0, none⟩) (a.length + 1) cu) (a.length + 1) (fcs (a ++ [(t1, t2)])) := by have h := own_drewN HO.out nq; rw [HQ.out] at h; exact h
          have hwz : wr.heap.size < ((wr.alloc (.cells #[.int .i64 x, .int .i64 y] 26)).drewN nq).heap.size := Rec.lt_of_cell b0
          have lw : ((wr.alloc (.cells #[.int .i64 x, .int .i64 y] 26)).drewN nq).cell? ⟨gs, a.length * 2 + 1, none⟩ = some (.int .i64 t2) := l1
          clear HO c0 c1 l0 l1
          generalize (wr.alloc (.cells #[.int .i64 x, .int .i64 y] 26)).drewN nq = W at b0 b1 hown HB hwz lw ⊢
          clear lw
          have hL := fcs_len (a ++ [(t1, t2)])
          rw [HQ.out] at hL
          have hWz := HB.out.size
          go_wp2_with (at_builtin; go_loud (refine wpList_append_own _ rfl (.tmp 43) (.tmp 45) 24 rfl w1.heap.size 26 i0 (.agg #[.int .i64 0, .int .i64 0]) 2 16 Try.underlying24 hi hz0 hz1 hz2 rfl (by decide) _ _ _ rfl (hown.alloc _) ⟨W.heap.size, 0, none⟩ 1 1 [.int .i64 x, .int .i64 y] rfl rfl (Rec.news _ _ _) (cs_one (x, y)) (by unfold maxLen; first | omega | (simp; omega) | (simp; done)) (by first | omega | (simp; omega) | (simp; done)) (by first | omega | (simp; omega) | (simp; done)) ?_; intro v1 w2 hown1 hg1 _))
          have R := Lib.hid (push_own (l := a ++ [(t1, t2)]) (f := (x, y)) (by show World.ownsRow _ _ _ _ _ _ _; rw [HQ.out]; exact hown) HB.out (Nat.le_refl _) (by show World.ownsRow _ _ _ _ _ _ _; rw [HQ.out]; exact hown1) hg1)
          clear hown hown1 hg1
          go_wp2
          go_roundw
          case rel => exact ⟨k + 1, by omega, by go_num, by rw [HM.out]; exact R.out.1, R.out.2⟩
          case measure => simp [intOf]; omega
    · have HE : Hid (d'.take k = d') := Lib.hid (List.take_of_length_le (by rw [HLN.out]; omega))
      rw [HE.out] at hown
      have HO := Lib.hid hown
      clear hown hb
      go_wp2
      go_ret
      exact ⟨_, d', HP.out, HSD.out, rfl, own_mono HO.out HGR.out.size, Rec.grown_trans HGR.out (Rec.grown_of_below HB.out)⟩
end Go.Proofs.Ytegaakgmfphcaaa.Spn
