/-
  CONTRACTS of UniteSpans, the model's and the program's: the set of all spans that can be in one, in memory of its own; nothing that was there before is changed.
-/
import Derived.Test.YtegaakgmfphcaaaSpnAddS
namespace Go.Proofs.Ytegaakgmfphcaaa.Spn
open Go Go.RowKit
set_option linter.unusedVariables false
set_option maxRecDepth 1000000

theorem unite_take {l : List S} {k : Nat} (h : k < l.length) : unite (l.take (k + 1)) = add (unite (l.take k)) (l.getD k nos) := by
  rw [List.take_succ_eq_append_getElem h, unite_more, getD_at h]
theorem add_len1 (l : List S) (x : S) : (add l x).length ≤ l.length + 1 := by
  unfold add; split
  · rename_i h; rw [Bool.and_eq_true] at h; exact res_len1 h.1 h.2
  · omega
theorem unite_len (l : List S) : (unite l).length ≤ l.length := by
  have key : ∀ k, (unite (l.take k)).length ≤ k := by
    intro k
    induction k with
    | zero => simp [unite]
    | succ k ih =>
      rcases Nat.lt_or_ge k l.length with h | h
      · rw [unite_take h]; have := add_len1 (unite (l.take k)) (l.getD k nos); omega
      · rw [List.take_of_length_le (by omega)]; rw [List.take_of_length_le h] at ih; omega
  have := key l.length
  rwa [List.take_length] at this

set_option maxHeartbeats 4000000 in
theorem impl_unite (v : Value) (B : Nat) (l : List T) (w : World) (h : Holds w B v l) (hB : B ≤ w.heap.size) (hl : l.length ≤ 2097152) :
    Calls Try.prog 13 #[v] w (Got (unite l) w) := by
  obtain ⟨i0, hi, hz0, hz1, hz2⟩ := info_parts info_r
  obtain ⟨a, cap, rfl, ha⟩ := shape h
  have HA := Lib.hid ha
  have HO := Lib.hid (own_lit_nil w)
  have HB := Lib.hid ((Below.refl w.heap.size w).alloc (Nat.le_refl _) (.cells #[] 26))
  clear ha h
  go_enter Try.func13, Try.ntmps13
  go_wp2
  go_loopw [3, 9] (fun u i wr => ∃ k : Nat, k ≤ l.length ∧ i = .int .i64 (k : Int) ∧ (∃ g c, u = .slice (some ⟨g, 0, none⟩) ((l.take k).filter can).length c) ∧ wr.ownsRow w.heap.size 26 2 u ((l.take k).filter can).length (fcs ((l.take k).filter can)) ∧ Below w.heap.size w wr) (fun _ i _ => l.length - (intOf i).toNat)
  case atStart => exact ⟨0, Nat.zero_le _, rfl, ⟨_, _, rfl⟩, HO.out, HB.out⟩
  case round =>
    clear HO HB
    obtain ⟨k, hk, rfl, ⟨ug, uc, rfl⟩, hown, hb⟩ := hrel
    have HB := Lib.hid hb
    have HO := Lib.hid hown
    have HML := Lib.hid (fil_len can l k)
    clear hown
    by_cases hlt : k < l.length
    · obtain ⟨b, off, rfl, hbw, hcap, hc⟩ := HA.out (by omega)
      obtain ⟨c0, c1⟩ := at_cells (at_below hc hb (Nat.lt_of_lt_of_le hbw hB)) hlt
      have hn : l.getD k nov = l.getD k nos := rfl
      rw [hn] at c0 c1
      have HY := Lib.hid (fil_yes (p := can) hlt)
      have HN := Lib.hid (fil_no (p := can) hlt)
      clear hb hc hn
      generalize l.getD k nos = s at c0 c1 HY HN
      obtain ⟨s1, s2⟩ := s
      simp only at c0 c1
      generalize (l.take k).filter can = m at HO HML HY HN
      have HC := Lib.hid (can_be s1 s2)
      have HBX := Lib.hid (box_new wr s1 s2)
      have HO := Lib.hid (row_below HO.out ((Below.refl wr.heap.size wr).alloc (Nat.le_refl _) (.cells #[.int .i64 s1, .int .i64 s2] 26)))
      have HB := Lib.hid (HB.out.alloc HB.out.size (.cells #[.int .i64 s1, .int .i64 s2] 26))
      cases hcan : can (s1, s2) with
      | false =>
        have HM := Lib.hid (HN.out hcan)
        rw [hcan] at HC
        clear hcan HY HN
        go_wp2_with (fail)
        go_at_call 21
        refine (HC.out _).mono ?_
        rintro e w1 ⟨rfl, hb1⟩
        have HO := Lib.hid (row_below HO.out hb1)
        have HB := Lib.hid (Base.then_below HB.out hb1)
        clear hb1
        go_wp2
        go_roundw
        case rel => exact ⟨k + 1, by omega, by go_num, by rw [HM.out]; exact ⟨_, _, rfl⟩, by rw [HM.out]; exact HO.out, HB.out⟩
        case measure => simp [intOf]; omega
      | true =>
        have HM := Lib.hid (HY.out hcan)
        rw [hcan] at HC
        clear hcan HY HN
        go_wp2_with (fail)
        go_at_call 21
        refine (HC.out _).mono ?_
        rintro e w1 ⟨rfl, hb1⟩
        have HBX := Lib.hid (box_below HBX.out hb1)
        obtain ⟨b0, b1⟩ := box_cells HBX.out
        have hown := row_below HO.out hb1
        have HB := Lib.hid (Base.then_below HB.out hb1)
        have hWz := HB.out.size
        have hL := fcs_len m
        have hML := HML.out
        clear hb1 HO
        go_wp2_with (at_builtin; go_loud (refine wpList_append_own _ rfl (.tmp 15) (.tmp 17) 24 rfl w.heap.size 26 i0 (.agg #[.int .i64 0, .int .i64 0]) 2 16 Try.underlying24 hi hz0 hz1 hz2 rfl (by decide) _ _ _ rfl (hown.alloc _) ⟨w1.heap.size, 0, none⟩ 1 1 [.int .i64 s1, .int .i64 s2] rfl rfl (Rec.news _ _ _) (cs_one (s1, s2)) (by unfold maxLen; first | omega | (simp; omega) | (simp; done)) (by first | omega | (simp; omega) | (simp; done)) (by first | omega | (simp; omega) | (simp; done)) ?_; intro v1 w4 hown1 hg1 _))
        have R := Lib.hid (push_own (a := w) (f := (s1, s2)) hown HB.out (Nat.le_refl _) hown1 hg1)
        obtain ⟨a2, c2, rfl, h2⟩ := Rec.shape_at hown1
        obtain ⟨g2, rfl⟩ := h2 (by omega)
        clear hown hown1 hg1 b0 b1
        go_wp2
        go_roundw
        case rel => exact ⟨k + 1, by omega, by go_num, by rw [HM.out]; exact ⟨g2, c2, by rw [List.length_append]; rfl⟩, by rw [HM.out]; exact R.out.1, R.out.2⟩
        case measure => simp [intOf]; omega
    · have HT : Hid (l.take k = l) := Lib.hid (List.take_of_length_le (by omega))
      rw [HT.out] at HO HML
      rw [HT.out]
      have HJ := Lib.hid (fun d (hp : d.Perm (l.filter can)) (hs : sorted d) => unite_join (l := l) hp hs)
      have HJS := Lib.hid (join_spans w.heap.size ug uc (l.filter can) wr HO.out (by have := HML.out; omega))
      have HG := Lib.hid (HO.out.lt ug rfl).1
      clear HT hb HO
      go_wp2_with (fail)
      go_at_call 22
      refine HJS.out.mono ?_
      rintro e w4 ⟨v4, d', hp, hsd, rfl, ho4, hg4⟩
      have HO : Hid (Own w4 w.heap.size v4 (unite l)) := Lib.hid (by rw [← HJ.out d' hp hsd]; exact own_mono ho4 HB.out.size)
      have HB := Lib.hid (HB.out.grown hg4 HB.out.size (fun k e => by cases e; exact HG.out))
      clear hp hsd ho4 hg4
      go_wp2
      go_ret
      exact ⟨_, rfl, HO.out, HB.out⟩
end Go.Proofs.Ytegaakgmfphcaaa.Spn
