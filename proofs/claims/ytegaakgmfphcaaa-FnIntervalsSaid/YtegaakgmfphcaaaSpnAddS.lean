/-
  CONTRACT of the model's AddSpan: the set with the span, in memory of its own; nothing that was there before is changed.
-/
import Derived.Test.YtegaakgmfphcaaaSpnAddI
import Derived.Test.YtegaakgmfphcaaaSpnMm
namespace Go.Proofs.Ytegaakgmfphcaaa.Spn
open Go Go.RowKit
set_option linter.unusedVariables false
set_option maxRecDepth 1000000

theorem fil_yes {p : S → Bool} {l : List S} {k : Nat} (h : k < l.length) (hp : p (l.getD k nos) = true) : (l.take (k + 1)).filter p = (l.take k).filter p ++ [l.getD k nos] := by
  rw [List.take_succ_eq_append_getElem h, List.filter_append, ← getD_at h, List.filter_cons_of_pos hp]; rfl
theorem fil_no {p : S → Bool} {l : List S} {k : Nat} (h : k < l.length) (hp : p (l.getD k nos) = false) : (l.take (k + 1)).filter p = (l.take k).filter p := by
  rw [List.take_succ_eq_append_getElem h, List.filter_append, ← getD_at h, List.filter_cons_of_neg (by rw [hp]; decide)]; simp
theorem fil_len (p : S → Bool) (l : List S) (k : Nat) : ((l.take k).filter p).length ≤ l.length := Nat.le_trans (List.length_filter_le _ _) (by rw [List.length_take]; omega)
def lo (x : S) (s : S) : Bool := decide (s.2 < x.1)
def hi (x : S) (s : S) : Bool := decide (x.2 < s.1)
theorem res_eq (l : List S) (x : S) : res l x = l.filter (lo x) ++ [merged l x] ++ l.filter (hi (merged l x)) := rfl
theorem merged_take {l : List S} {x : S} {k : Nat} (h : k < l.length) : merged (l.take (k + 1)) x = mstep (merged (l.take k) x) (l.getD k nos) := by
  unfold merged; rw [List.take_succ_eq_append_getElem h, List.foldl_append, ← getD_at h]; rfl
theorem mstep_yes {x s : S} (h : x.1 ≤ s.2) (h2 : s.1 ≤ x.2) : mstep x s = (min x.1 s.1, max x.2 s.2) := by unfold mstep; rw [if_pos ⟨h, h2⟩]
theorem mstep_no {x s : S} (h : ¬ x.1 ≤ s.2 ∨ ¬ s.1 ≤ x.2) : mstep x s = x := by unfold mstep; rw [if_neg (by rintro ⟨a, b⟩; rcases h with h | h <;> omega)]
/-- A span in a block of its own. -/
def Box (b : Nat) (x : S) (w : World) : Prop := w.heap[b]? = some (.cells #[.int .i64 x.1, .int .i64 x.2] 26 (0, 0))
theorem box_new (w : World) (x y : Int) : Box w.heap.size (x, y) (w.alloc (.cells #[.int .i64 x, .int .i64 y] 26)) := heap_alloc_new w _
theorem box_lt {b : Nat} {x : S} {w : World} (h : Box b x w) : b < w.heap.size := by
  rcases Nat.lt_or_ge b w.heap.size with h' | h'
  · exact h'
  · unfold Box at h; rw [Array.getElem?_eq_none h'] at h; cases h
theorem box_cells {b : Nat} {x y : Int} {w : World} (h : Box b (x, y) w) : w.cell? ⟨b, 0, none⟩ = some (.int .i64 x) ∧ w.cell? ⟨b, 1, none⟩ = some (.int .i64 y) := ⟨cell_of_row w b 0 _ _ (0, 0) h, cell_of_row w b 1 _ _ (0, 0) h⟩
theorem box_free {b : Nat} {x : S} {w : World} (h : Box b x w) : w.frozen? ⟨b, 0, none⟩ = false ∧ w.frozen? ⟨b, 1, none⟩ = false := ⟨frozen_of_row w b 0 _ _ h, frozen_of_row w b 1 _ _ h⟩
theorem box_below {b : Nat} {x : S} {w w' : World} (h : Box b x w) (hb : Below w.heap.size w w') : Box b x w' := (hb.block b (box_lt h)).trans h
theorem box_grown {b : Nat} {x : S} {w w' : World} {row : Option Nat} (h : Box b x w) (hg : w.grownBy w' row) (hr : ∀ k, row = some k → b + 1 ≤ k) : Box b x w' := (hg.block b (box_lt h) (fun e => Nat.not_succ_le_self _ (hr _ e.symm))).trans h
theorem boxb_drewN {b : Nat} {x : S} {w : World} (h : Box b x w) (n : Nat) : Box b x (w.drewN n) := h
theorem box_put {b : Nat} {x : S} {w : World} (h : Box b x w) (z1 z2 : Int) : Box b (z1, z2) ((w.setCell ⟨b, 0, none⟩ (.int .i64 z1)).setCell ⟨b, 1, none⟩ (.int .i64 z2)) :=
  heap_setCell_same _ b 1 _ _ _ (heap_setCell_same w b 0 _ _ _ h)
theorem own_put {b B : Nat} {w : World} {v : Value} {l : List T} (h : Own w B v l) (hb : b < B) (z1 z2 : Int) : Own ((w.setCell ⟨b, 0, none⟩ (.int .i64 z1)).setCell ⟨b, 1, none⟩ (.int .i64 z2)) B v l :=
  ownsRow_setCell_below (ownsRow_setCell_below h (a := ⟨b, 0, none⟩) hb _) (a := ⟨b, 1, none⟩) hb _


set_option maxRecDepth 1000000 in
set_option maxHeartbeats 8000000 in
theorem spec_add_good (v : Value) (B : Nat) (l : List T) (x y : Int) (w : World) (h : Holds w B v l) (hB : B ≤ w.heap.size) (hl : l.length ≤ 2097152) (hset : isSet l = true) (g1 : 0 ≤ x) (g2 : x < y) (g3 : y ≤ 1000000000000) :
    Calls Try.prog 30 #[v, .agg #[.int .i64 x, .int .i64 y]] w (Got (add l (x, y)) w) := by
  obtain ⟨i0, hi, hz0, hz1, hz2⟩ := info_parts info_r
  have HE : Hid (add l (x, y) = res l (x, y)) := Lib.hid (add_yes hset (can_iff.2 ⟨g1, g2, g3⟩))
  rw [HE.out, res_eq]
  have HBA : Hid (Below w.heap.size w (w.alloc (.cells #[.int .i64 x, .int .i64 y] 26))) := Lib.hid ((Below.refl _ _).alloc (Nat.le_refl _) _)
  have HS := Lib.hid (spec_set v B l _ (holds_below h (HBA.out.mono hB)) (Nat.le_trans hB HBA.out.size) (by omega))
  rw [hset] at HS
  have HBX := Lib.hid (box_new w x y)
  obtain ⟨a, cap, rfl, ha⟩ := shape h
  have HA := Lib.hid ha
  clear ha h hset HE
  go_enter Try.func30, Try.ntmps30
  go_wp2_with (fail)
  go_at_call 9
  refine HS.out.mono ?_
  rintro e w1 ⟨rfl, hb1⟩
  have HB := Lib.hid (HBA.out.trans (hb1.mono (by simp)))
  have HBX := Lib.hid (box_below HBX.out hb1)
  obtain ⟨bx0, bx1⟩ := box_cells HBX.out
  have hw1 : w.heap.size + 1 ≤ w1.heap.size := box_lt HBX.out
  have HO := Lib.hid (own_mono (own_lit_nil w1) hw1)
  have HBX := Lib.hid (box_below HBX.out ((Below.refl w1.heap.size w1).alloc (Nat.le_refl _) (.cells #[] 26)))
  have HB := Lib.hid (HB.out.alloc HB.out.size (.cells #[] 26))
  clear hb1 HS HBA
  go_wp2
  clear bx0 bx1
  go_loopw [5, 6] (fun u i wr => ∃ k : Nat, k ≤ l.length ∧ i = .int .i64 (k : Int) ∧ wr.ownsRow (w.heap.size + 1) 26 2 u ((l.take k).filter (lo (x, y))).length (fcs ((l.take k).filter (lo (x, y)))) ∧ Hid (Box w.heap.size (x, y) wr) ∧ Below w.heap.size w wr) (fun _ i _ => l.length - (intOf i).toNat)
  case atStart => exact ⟨0, Nat.zero_le _, rfl, HO.out, HBX, HB.out⟩
  case round =>
    clear HO HBX HB
    obtain ⟨k, hk, rfl, hown, HBX, hb⟩ := hrel
    have HB := Lib.hid hb
    have HO := Lib.hid hown
    have HML := Lib.hid (fil_len (lo (x, y)) l k)
    clear hown
    by_cases hlt : k < l.length
    · obtain ⟨b0, b1⟩ := box_cells HBX.out
      obtain ⟨b, off, rfl, hbw, hcap, hc⟩ := HA.out (by omega)
      obtain ⟨c0, c1⟩ := at_cells (at_below hc hb (Nat.lt_of_lt_of_le hbw hB)) hlt
      have hn : l.getD k nov = l.getD k nos := rfl
      rw [hn] at c0 c1
      have hki : (k : Int) < (l.length : Int) := by omega
      have HY := Lib.hid (fil_yes (p := lo (x, y)) hlt)
      have HN := Lib.hid (fil_no (p := lo (x, y)) hlt)
      clear hb hc hn
      generalize l.getD k nos = s at c0 c1 HY HN
      obtain ⟨s1, s2⟩ := s
      simp only at c0 c1
      generalize (l.take k).filter (lo (x, y)) = m at HO HML HY HN
      by_cases hx : s2 < x
      · have dx : decide (s2 < x) = true := by simpa using hx
        have HM := Lib.hid (HY.out dx)
        clear HY HN
        go_wp2
        go_quiet (fail)
        have HB := Lib.hid (Rec.below_drewN HB.out nq)
        have HBX := Lib.hid (boxb_drewN HBX.out nq)
        have hown := own_drewN HO.out nq
        have c0 : (wr.drewN nq).cell? _ = _ := c0
        have c1 : (wr.drewN nq).cell? _ = _ := c1
        have hWz : w.heap.size + 1 ≤ (wr.drewN nq).heap.size := box_lt HBX.out
        clear HO b0 b1 hx dx
        generalize wr.drewN nq = W at c0 c1 hown HB HBX hWz ⊢
        have hL := fcs_len m
        have hML := HML.out
        go_wp2_with (at_builtin; go_loud (refine wpList_append_own _ rfl (.tmp 47) (.tmp 52) 24 rfl (w.heap.size + 1) 26 i0 (.agg #[.int .i64 0, .int .i64 0]) 2 16 Try.underlying24 hi hz0 hz1 hz2 rfl (by decide) _ _ _ rfl (hown.alloc _) ⟨W.heap.size, 0, none⟩ 1 1 [.int .i64 s1, .int .i64 s2] rfl rfl (Rec.news _ _ _) (cs_one (s1, s2)) (by unfold maxLen; first | omega | (simp; omega) | (simp; done)) (by first | omega | (simp; omega) | (simp; done)) (by first | omega | (simp; omega) | (simp; done)) ?_; intro v1 w4 hown1 hg1 _))
        have R := Lib.hid (push_own (a := w) (f := (s1, s2)) hown HB.out (Nat.le_succ _) hown1 hg1)
        have HBX := Lib.hid (box_grown (box_below HBX.out ((Below.refl W.heap.size W).alloc (Nat.le_refl _) (.cells #[.int .i64 s1, .int .i64 s2] 26))) hg1 (fun k e => (hown.lt k e).1))
        clear hown hown1 hg1
        go_wp2
        go_roundw
        case rel => exact ⟨k + 1, by omega, by go_num, by rw [HM.out]; exact R.out.1, HBX, R.out.2⟩
        case measure => simp [intOf]; omega
      · have dx : decide (s2 < x) = false := by simpa using hx
        have HM := Lib.hid (HN.out dx)
        clear HY HN hx
        go_wp2
        go_quiet (fail)
        have HB := Lib.hid (Rec.below_drewN HB.out nq)
        have HBX := Lib.hid (boxb_drewN HBX.out nq)
        have HO := Lib.hid (own_drewN HO.out nq)
        go_wp2
        go_roundw
        case rel => exact ⟨k + 1, by omega, by go_num, by rw [HM.out]; exact HO.out, HBX, HB.out⟩
        case measure => simp [intOf]; omega
    · have HT : Hid (l.take k = l) := Lib.hid (List.take_of_length_le (by omega))
      rw [HT.out] at HO
      clear HT hb
      go_wp2
      go_loopw [7] (fun i wr => ∃ k : Nat, k ≤ l.length ∧ i = .int .i64 (k : Int) ∧ wr.ownsRow (w.heap.size + 1) 26 2 u5 (l.filter (lo (x, y))).length (fcs (l.filter (lo (x, y)))) ∧ Hid (Box w.heap.size (merged (l.take k) (x, y)) wr) ∧ Below w.heap.size w wr) (fun i _ => l.length - (intOf i).toNat)
      case atStart => exact ⟨0, Nat.zero_le _, rfl, HO.out, HBX, HB.out⟩
      case round =>
        clear HO HBX HB
        obtain ⟨k, hk, rfl, hown, HBX, hb⟩ := hrel
        have HB := Lib.hid hb
        have HO := Lib.hid hown
        clear hown
        by_cases hlt : k < l.length
        · skip
          obtain ⟨b, off, rfl, hbw, hcap, hc⟩ := HA.out (by omega)
          obtain ⟨c0, c1⟩ := at_cells (at_below hc hb (Nat.lt_of_lt_of_le hbw hB)) hlt
          have hn : l.getD k nov = l.getD k nos := rfl
          rw [hn] at c0 c1
          have hki : (k : Int) < (l.length : Int) := by omega
          have HM := Lib.hid (merged_take (x := (x, y)) hlt)
          clear hb hc hn
          generalize l.getD k nos = s at c0 c1 HM
          obtain ⟨s1, s2⟩ := s
          simp only at c0 c1
          generalize merged (l.take k) (x, y) = mx at HBX HM
          obtain ⟨x1, x2⟩ := mx
          obtain ⟨b0, b1⟩ := box_cells HBX.out
          by_cases h1 : x1 ≤ s2
          · have d1 : decide (x1 ≤ s2) = true := by simpa using h1
            by_cases h2 : s1 ≤ x2
            · have d2 : decide (s1 ≤ x2) = true := by simpa using h2
              rw [mstep_yes h1 h2] at HM
              go_wp2
              go_quiet (fail)
              have HMN : Hid (∀ U : World, Calls Try.prog 37 #[.int .i64 x1, .int .i64 s1] U fun e w'' => e = .returned (.int .i64 (min x1 s1)) ∧ w'' = U) := Lib.hid (fun U => (min_s x1 s1 U).mono fun _ _ h => ⟨h.1, h.2.symm⟩)
              have HMX : Hid (∀ U : World, Calls Try.prog 38 #[.int .i64 x2, .int .i64 s2] U fun e w'' => e = .returned (.int .i64 (max x2 s2)) ∧ w'' = U) := Lib.hid (fun U => (max_s x2 s2 U).mono fun _ _ h => ⟨h.1, h.2.symm⟩)
              have HB := Lib.hid (Rec.below_drew (Rec.below_drewN HB.out nq))
              have HBX : Hid (Box w.heap.size (x1, x2) (wr.drewN nq).drew) := Lib.hid HBX.out
              have c0 : (wr.drewN nq).drew.cell? _ = _ := c0
              have c1 : (wr.drewN nq).drew.cell? _ = _ := c1
              have b0 : (wr.drewN nq).drew.cell? _ = _ := b0
              have b1 : (wr.drewN nq).drew.cell? _ = _ := b1
              have HO : Hid (Own (wr.drewN nq).drew (w.heap.size + 1) u5 (l.filter (lo (x, y)))) := Lib.hid HO.out
              obtain ⟨z0, z1⟩ := box_free HBX.out
              clear h1 h2
              go_wp2
              refine wp_region_still_tail 17 (by kernel_rfl) (by kernel_rfl) ?_
              show wpStill _ _ (wr.drewN nq).drew (fun a' => wpList _ _ _ _ a' (wr.drewN nq).drew) _ _
              generalize (wr.drewN nq).drew = V at b0 b1 c0 c1 z0 z1 HB HBX HO ⊢
              simp only [List.take_succ_cons, List.take_zero, List.drop_succ_cons, List.drop_zero]
              repeat (first | still_step | still_call (HMN.out _) | still_call (HMX.out _) | (refine wpStill_step (fun K hK => ?_); go_simp; simp only [if_pos hki]; refine ⟨trivial, hK _ ?_⟩; clear hK K) | (refine wpStill_step (fun K hK => ?_); go_simp; simp only [if_pos hki, true_and]; refine hK _ ?_; clear hK K))
              refine wpStill_nil ?_
              go_wp2
              go_roundw
              case rel => exact ⟨k + 1, by omega, by go_num, own_put HO.out (Nat.lt_succ_self _) _ _, Lib.hid (by rw [HM.out]; exact box_put HBX.out _ _), (HB.out.setCell (Nat.le_refl _) _).setCell (Nat.le_refl _) _⟩
              case measure => simp [intOf]; omega
            · have d2 : decide (s1 ≤ x2) = false := by simpa using h2
              rw [mstep_no (Or.inr h2)] at HM
              clear h2
              go_wp2
              go_quiet (fail)
              have HB := Lib.hid (Rec.below_drewN HB.out nq)
              have HBX := Lib.hid (boxb_drewN HBX.out nq)
              have HO := Lib.hid (own_drewN HO.out nq)
              go_wp2
              go_roundw
              case rel => exact ⟨k + 1, by omega, by go_num, HO.out, Lib.hid (by rw [HM.out]; exact HBX.out), HB.out⟩
              case measure => simp [intOf]; omega
          · have d1 : decide (x1 ≤ s2) = false := by simpa using h1
            rw [mstep_no (Or.inl h1)] at HM
            clear h1
            go_wp2
            go_quiet (fail)
            have HB := Lib.hid (Rec.below_drewN HB.out nq)
            have HBX := Lib.hid (boxb_drewN HBX.out nq)
            have HO := Lib.hid (own_drewN HO.out nq)
            go_wp2
            go_roundw
            case rel => exact ⟨k + 1, by omega, by go_num, HO.out, Lib.hid (by rw [HM.out]; exact HBX.out), HB.out⟩
            case measure => simp [intOf]; omega
        · have HT : Hid (l.take k = l) := Lib.hid (List.take_of_length_le (by omega))
          rw [HT.out] at HBX
          clear HT hb
          have HML := Lib.hid (List.length_filter_le (lo (x, y)) l)
          obtain ⟨mx, hmx⟩ : ∃ mx, merged l (x, y) = mx := ⟨_, rfl⟩
          rw [hmx] at HBX
          have HMX := Lib.hid hmx
          clear hmx
          obtain ⟨x1, x2⟩ := mx
          obtain ⟨f1, hf1⟩ : ∃ f1, l.filter (lo (x, y)) = f1 := ⟨_, rfl⟩
          rw [hf1] at HO HML
          have HF1 := Lib.hid hf1
          clear hf1
          obtain ⟨b0, b1⟩ := box_cells HBX.out
          have hown := HO.out
          have hWz : w.heap.size + 1 ≤ wr.heap.size := box_lt HBX.out
          have hL := fcs_len f1
          have hML := HML.out
          clear HO
          go_wp2_with (at_builtin; go_loud (refine wpList_append_own _ rfl (.tmp 95) (.tmp 97) 24 rfl (w.heap.size + 1) 26 i0 (.agg #[.int .i64 0, .int .i64 0]) 2 16 Try.underlying24 hi hz0 hz1 hz2 rfl (by decide) _ _ _ rfl (hown.alloc _) ⟨wr.heap.size, 0, none⟩ 1 1 [.int .i64 x1, .int .i64 x2] rfl rfl (Rec.news _ _ _) (cs_one (x1, x2)) (by unfold maxLen; first | omega | (simp; omega) | (simp; done)) (by first | omega | (simp; omega) | (simp; done)) (by first | omega | (simp; omega) | (simp; done)) ?_; intro v1 w4 hown1 hg1 _))
          have R := Lib.hid (push_own (a := w) (f := (x1, x2)) hown HB.out (Nat.le_succ _) hown1 hg1)
          have HBX := Lib.hid (box_grown (box_below HBX.out ((Below.refl wr.heap.size wr).alloc (Nat.le_refl _) (.cells #[.int .i64 x1, .int .i64 x2] 26))) hg1 (fun k e => (hown.lt k e).1))
          clear hown hown1 hg1
          clear b0 b1
          have HO := Lib.hid R.out.1
          have HB := Lib.hid R.out.2
          clear R
          go_wp2
          go_loopw [5, 8] (fun u i wr => ∃ k : Nat, k ≤ l.length ∧ i = .int .i64 (k : Int) ∧ wr.ownsRow (w.heap.size + 1) 26 2 u (f1 ++ [(x1, x2)] ++ (l.take k).filter (Spn.hi (x1, x2))).length (fcs (f1 ++ [(x1, x2)] ++ (l.take k).filter (Spn.hi (x1, x2)))) ∧ Hid (Box w.heap.size (x1, x2) wr) ∧ Below w.heap.size w wr) (fun _ i _ => l.length - (intOf i).toNat)
          case atStart => exact ⟨0, Nat.zero_le _, rfl, by simp only [List.take_zero, List.filter_nil, List.append_nil]; exact HO.out, HBX, HB.out⟩
          case round =>
            clear HO HBX HB
            obtain ⟨k, hk, rfl, hown, HBX, hb⟩ := hrel
            have HB := Lib.hid hb
            have HO := Lib.hid hown
            have HFL := Lib.hid (fil_len (Spn.hi (x1, x2)) l k)
            clear hown
            by_cases hlt : k < l.length
            · obtain ⟨b0, b1⟩ := box_cells HBX.out
              obtain ⟨b, off, rfl, hbw, hcap, hc⟩ := HA.out (by omega)
              obtain ⟨c0, c1⟩ := at_cells (at_below hc hb (Nat.lt_of_lt_of_le hbw hB)) hlt
              have hn : l.getD k nov = l.getD k nos := rfl
              rw [hn] at c0 c1
              have hki : (k : Int) < (l.length : Int) := by omega
              have HY := Lib.hid (fil_yes (p := Spn.hi (x1, x2)) hlt)
              have HN := Lib.hid (fil_no (p := Spn.hi (x1, x2)) hlt)
              clear hb hc hn
              generalize l.getD k nos = s at c0 c1 HY HN
              obtain ⟨s1, s2⟩ := s
              simp only at c0 c1
              generalize (l.take k).filter (Spn.hi (x1, x2)) = f3 at HO HFL HY HN
              by_cases hx : x2 < s1
              · have dx : decide (x2 < s1) = true := by simpa using hx
                have HM := Lib.hid (HY.out dx)
                have HLN : Hid ((f1 ++ [(x1, x2)] ++ f3).length ≤ 4194305) := Lib.hid (by have := HFL.out; have := HML.out; simp; omega)
                have HAS : Hid (f1 ++ [(x1, x2)] ++ (f3 ++ [(s1, s2)]) = (f1 ++ [(x1, x2)] ++ f3) ++ [(s1, s2)]) := Lib.hid (List.append_assoc _ _ _).symm
                clear HY HN
                generalize f1 ++ [(x1, x2)] ++ f3 = m at HO HLN HAS
                go_wp2
                go_quiet (fail)
                have HB := Lib.hid (Rec.below_drewN HB.out nq)
                have HBX := Lib.hid (boxb_drewN HBX.out nq)
                have hown := own_drewN HO.out nq
                have c0 : (wr.drewN nq).cell? _ = _ := c0
                have c1 : (wr.drewN nq).cell? _ = _ := c1
                have hWz : w.heap.size + 1 ≤ (wr.drewN nq).heap.size := box_lt HBX.out
                clear HO b0 b1 hx dx
                generalize wr.drewN nq = W at c0 c1 hown HB HBX hWz ⊢
                have hL := fcs_len m
                have hML := HLN.out
                go_wp2_with (at_builtin; go_loud (refine wpList_append_own _ rfl (.tmp 113) (.tmp 118) 24 rfl (w.heap.size + 1) 26 i0 (.agg #[.int .i64 0, .int .i64 0]) 2 16 Try.underlying24 hi hz0 hz1 hz2 rfl (by decide) _ _ _ rfl (hown.alloc _) ⟨W.heap.size, 0, none⟩ 1 1 [.int .i64 s1, .int .i64 s2] rfl rfl (Rec.news _ _ _) (cs_one (s1, s2)) (by unfold maxLen; first | omega | (simp; omega) | (simp; done)) (by first | omega | (simp; omega) | (simp; done)) (by first | omega | (simp; omega) | (simp; done)) ?_; intro v1 w4 hown1 hg1 _))
                have R := Lib.hid (push_own (a := w) (f := (s1, s2)) hown HB.out (Nat.le_succ _) hown1 hg1)
                have HBX := Lib.hid (box_grown (box_below HBX.out ((Below.refl W.heap.size W).alloc (Nat.le_refl _) (.cells #[.int .i64 s1, .int .i64 s2] 26))) hg1 (fun k e => (hown.lt k e).1))
                clear hown hown1 hg1
                go_wp2
                go_roundw
                case rel => exact ⟨k + 1, by omega, by go_num, by rw [HM.out, HAS.out]; exact R.out.1, HBX, R.out.2⟩
                case measure => simp [intOf]; omega
              · have dx : decide (x2 < s1) = false := by simpa using hx
                have HM := Lib.hid (HN.out dx)
                clear HY HN hx
                go_wp2
                go_quiet (fail)
                have HB := Lib.hid (Rec.below_drewN HB.out nq)
                have HBX := Lib.hid (boxb_drewN HBX.out nq)
                have HO := Lib.hid (own_drewN HO.out nq)
                go_wp2
                go_roundw
                case rel => exact ⟨k + 1, by omega, by go_num, by rw [HM.out]; exact HO.out, HBX, HB.out⟩
                case measure => simp [intOf]; omega
            · have HT : Hid (l.take k = l) := Lib.hid (List.take_of_length_le (by omega))
              rw [HT.out] at HO
              have HO := Lib.hid (own_mono HO.out (Nat.le_succ _))
              clear HT hb
              go_wp2
              go_ret
              exact ⟨_, rfl, by rw [HF1.out, HMX.out]; exact HO.out, HB.out⟩
set_option maxRecDepth 1000000 in
set_option maxHeartbeats 4000000 in
theorem spec_add_bad (v : Value) (B : Nat) (l : List T) (x y : Int) (w : World) (h : Holds w B v l) (hB : B ≤ w.heap.size) (hl : l.length ≤ 2097152) (hbad : (isSet l && can (x, y)) = false) :
    Calls Try.prog 30 #[v, .agg #[.int .i64 x, .int .i64 y]] w (Got (add l (x, y)) w) := by
  obtain ⟨i0, hi, hz0, hz1, hz2⟩ := info_parts info_r
  rw [add_no hbad]
  have HBA : Hid (Below w.heap.size w (w.alloc (.cells #[.int .i64 x, .int .i64 y] 26))) := Lib.hid ((Below.refl _ _).alloc (Nat.le_refl _) _)
  have HS := Lib.hid (spec_set v B l _ (holds_below h (HBA.out.mono hB)) (Nat.le_trans hB HBA.out.size) (by omega))
  have HBX := Lib.hid (box_new w x y)
  have HY0 := Lib.hid h
  clear h
  cases hset : isSet l with
  | false =>
    rw [hset] at HS
    clear hset hbad
    go_enter Try.func30, Try.ntmps30
    go_wp2_with (fail)
    go_at_call 9
    refine HS.out.mono ?_
    rintro e w1 ⟨rfl, hb1⟩
    have HB := Lib.hid (HBA.out.trans (hb1.mono (by simp)))
    have HBX := Lib.hid (box_below HBX.out hb1)
    obtain ⟨bx0, bx1⟩ := box_cells HBX.out
    have hmw := holds_below HY0.out ((HB.out.alloc HB.out.size (.cells #[] 26)).mono hB)
    have hown := own_mono (own_lit_nil w1) HB.out.size
    have HB := Lib.hid (HB.out.alloc HB.out.size (.cells #[] 26))
    have hbz := HB.out.size
    clear hb1
    go_wp2_with (at_builtin; go_loud (refine Rec.append_holds (l := []) cs_len cs_one rfl (.tmp 29) (.tmp 30) 24 26 rfl Try.underlying24 hi hz0 hz1 hz2 rfl (by decide) rfl rfl hown hmw (by unfold maxLen; simp; omega) (by simp; omega) hbz ?_; intro v1 w3 hown1 hg1))
    have HO : Hid (Own w3 w.heap.size v1 l) := Lib.hid hown1
    have HB := Lib.hid (HB.out.grown hg1 HB.out.size (fun k e => (hown.lt k e).1))
    clear hown hown1 hg1 hmw hbz
    go_wp2
    go_ret
    exact ⟨_, rfl, HO.out, HB.out⟩
  | true =>
    rw [hset] at HS
    by_cases h1 : x < 0
    · clear hset hbad
      go_enter Try.func30, Try.ntmps30
      go_wp2_with (fail)
      go_at_call 9
      refine HS.out.mono ?_
      rintro e w1 ⟨rfl, hb1⟩
      have HB := Lib.hid (HBA.out.trans (hb1.mono (by simp)))
      have HBX := Lib.hid (box_below HBX.out hb1)
      obtain ⟨bx0, bx1⟩ := box_cells HBX.out
      have hmw := holds_below HY0.out ((HB.out.alloc HB.out.size (.cells #[] 26)).mono hB)
      have hown := own_mono (own_lit_nil w1) HB.out.size
      have HB := Lib.hid (HB.out.alloc HB.out.size (.cells #[] 26))
      have hbz := HB.out.size
      clear hb1
      go_wp2_with (at_builtin; go_loud (refine Rec.append_holds (l := []) cs_len cs_one rfl (.tmp 29) (.tmp 30) 24 26 rfl Try.underlying24 hi hz0 hz1 hz2 rfl (by decide) rfl rfl hown hmw (by unfold maxLen; simp; omega) (by simp; omega) hbz ?_; intro v1 w3 hown1 hg1))
      have HO : Hid (Own w3 w.heap.size v1 l) := Lib.hid hown1
      have HB := Lib.hid (HB.out.grown hg1 HB.out.size (fun k e => (hown.lt k e).1))
      clear hown hown1 hg1 hmw hbz
      go_wp2
      go_ret
      exact ⟨_, rfl, HO.out, HB.out⟩
    by_cases h2 : y ≤ x
    · clear hset hbad
      go_enter Try.func30, Try.ntmps30
      go_wp2_with (fail)
      go_at_call 9
      refine HS.out.mono ?_
      rintro e w1 ⟨rfl, hb1⟩
      have HB := Lib.hid (HBA.out.trans (hb1.mono (by simp)))
      have HBX := Lib.hid (box_below HBX.out hb1)
      obtain ⟨bx0, bx1⟩ := box_cells HBX.out
      have hmw := holds_below HY0.out ((HB.out.alloc HB.out.size (.cells #[] 26)).mono hB)
      have hown := own_mono (own_lit_nil w1) HB.out.size
      have HB := Lib.hid (HB.out.alloc HB.out.size (.cells #[] 26))
      have hbz := HB.out.size
      clear hb1
      go_wp2_with (at_builtin; go_loud (refine Rec.append_holds (l := []) cs_len cs_one rfl (.tmp 29) (.tmp 30) 24 26 rfl Try.underlying24 hi hz0 hz1 hz2 rfl (by decide) rfl rfl hown hmw (by unfold maxLen; simp; omega) (by simp; omega) hbz ?_; intro v1 w3 hown1 hg1))
      have HO : Hid (Own w3 w.heap.size v1 l) := Lib.hid hown1
      have HB := Lib.hid (HB.out.grown hg1 HB.out.size (fun k e => (hown.lt k e).1))
      clear hown hown1 hg1 hmw hbz
      go_wp2
      go_ret
      exact ⟨_, rfl, HO.out, HB.out⟩
    by_cases h3 : 1000000000000 < y
    · clear hset hbad
      go_enter Try.func30, Try.ntmps30
      go_wp2_with (fail)
      go_at_call 9
      refine HS.out.mono ?_
      rintro e w1 ⟨rfl, hb1⟩
      have HB := Lib.hid (HBA.out.trans (hb1.mono (by simp)))
      have HBX := Lib.hid (box_below HBX.out hb1)
      obtain ⟨bx0, bx1⟩ := box_cells HBX.out
      have hmw := holds_below HY0.out ((HB.out.alloc HB.out.size (.cells #[] 26)).mono hB)
      have hown := own_mono (own_lit_nil w1) HB.out.size
      have HB := Lib.hid (HB.out.alloc HB.out.size (.cells #[] 26))
      have hbz := HB.out.size
      clear hb1
      go_wp2_with (at_builtin; go_loud (refine Rec.append_holds (l := []) cs_len cs_one rfl (.tmp 29) (.tmp 30) 24 26 rfl Try.underlying24 hi hz0 hz1 hz2 rfl (by decide) rfl rfl hown hmw (by unfold maxLen; simp; omega) (by simp; omega) hbz ?_; intro v1 w3 hown1 hg1))
      have HO : Hid (Own w3 w.heap.size v1 l) := Lib.hid hown1
      have HB := Lib.hid (HB.out.grown hg1 HB.out.size (fun k e => (hown.lt k e).1))
      clear hown hown1 hg1 hmw hbz
      go_wp2
      go_ret
      exact ⟨_, rfl, HO.out, HB.out⟩
    exfalso
    rw [hset, can_iff.2 (show 0 ≤ (x, y).1 ∧ (x, y).1 < (x, y).2 ∧ (x, y).2 ≤ 1000000000000 from ⟨by omega, by omega, by omega⟩)] at hbad
    cases hbad
theorem spec_add (v : Value) (B : Nat) (l : List T) (x y : Int) (w : World) (h : Holds w B v l) (hB : B ≤ w.heap.size) (hl : l.length ≤ 2097152) :
    Calls Try.prog 30 #[v, .agg #[.int .i64 x, .int .i64 y]] w (Got (add l (x, y)) w) := by
  cases hb : (isSet l && can (x, y)) with
  | false => exact spec_add_bad v B l x y w h hB hl hb
  | true =>
    rw [Bool.and_eq_true] at hb
    have h3 := can_iff.1 hb.2
    exact spec_add_good v B l x y w h hB hl hb.1 h3.1 h3.2.1 h3.2.2
end Go.Proofs.Ytegaakgmfphcaaa.Spn
