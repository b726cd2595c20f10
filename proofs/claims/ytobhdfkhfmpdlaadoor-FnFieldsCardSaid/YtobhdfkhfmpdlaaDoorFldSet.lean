/-
  CONTRACTS of SetField, the program's: in new memory, the fields with this value as the only one with this name; nothing that was there before is changed.
-/
import Derived.Test.YtobhdfkhfmpdlaaDoorFldSetM
import Derived.RegionTactic
namespace Go.Proofs.YtobhdfkhfmpdlaaDoor.Flds
open Go Go.RowKit
set_option linter.unusedVariables false
set_option maxRecDepth 1000000

def FilSet (B0 g h : Nat) (n : List UInt8) (l : List Fld) (w : World) (e : Ending) (w' : World) : Prop :=
  ∃ v, e = .returned v ∧ Own w' w.heap.size v (setl n false l) ∧ w'.cell? ⟨g, 0, none⟩ = some (.string ⟨n.toArray⟩) ∧ w'.cell? ⟨h, 0, none⟩ = some (.bool (sn n l)) ∧ Below B0 w w'

theorem shape_any {w : World} {B : Nat} {v : Value} {l : List Fld} (h : Holds w B v l) : ∃ a cap, v = .slice a l.length cap ∧ (0 < l.length → ∃ b off, a = some ⟨b, off, none⟩ ∧ b < B ∧ At w b off l) := by
  rcases h with ⟨rfl, a, cap, rfl⟩ | ⟨h0, b, off, cap, rfl, hb, _, hc⟩
  · exact ⟨a, cap, rfl, fun h => by simp at h⟩
  · exact ⟨_, cap, rfl, fun _ => ⟨b, off, rfl, hb, hc⟩⟩

theorem r_no {x n : List UInt8} {s : Bool} (h : false = (!(x == n) || !s)) : x = n ∧ s = true := by
  by_cases e : x = n
  · cases s
    · subst e; simp at h
    · exact ⟨e, rfl⟩
  · have hq : (x == n) = false := by simpa using e
    rw [hq] at h; cases h
theorem r_yes {x n : List UInt8} {s : Bool} (h : true = (!(x == n) || !s)) : ¬ (x = n ∧ s = true) := by
  rintro ⟨rfl, rfl⟩
  simp at h
set_option maxHeartbeats 2000000 in
theorem filter_set (B0 g h : Nat) (n : List UInt8) (v : Value) (l : List Fld) (w : World) (hgh : g ≠ h) (hB0 : B0 ≤ h) (hBw : B0 ≤ w.heap.size) (hg : g < w.heap.size) (hh : h < w.heap.size)
    (cg : w.cell? ⟨g, 0, none⟩ = some (.string ⟨n.toArray⟩)) (ch : w.cell? ⟨h, 0, none⟩ = some (.bool false)) (fh : w.frozen? ⟨h, 0, none⟩ = false) (hH : Holds w B0 v l) (hl : l.length ≤ 1048576) :
    Calls Tryd.prog 43 #[v, .func (.func 44) #[] #[.pointer (some ⟨g, 0, none⟩), .pointer (some ⟨h, 0, none⟩)]] w (FilSet B0 g h n l w) := by
  obtain ⟨i0, hi, hz0, hz1, hz2⟩ := info_parts info_fld
  obtain ⟨a, cap, rfl, ha⟩ := shape_any hH
  have HA := Lib.hid ha
  have HO := Lib.hid (own_lit_nil w)
  have hb1 : Below B0 w (w.alloc (.cells #[] 46)) := (Below.refl _ _).alloc hBw _
  have HS : Hid ((w.alloc (.cells #[] 46)).cell? ⟨g, 0, none⟩ = some (.string ⟨n.toArray⟩) ∧ (w.alloc (.cells #[] 46)).cell? ⟨h, 0, none⟩ = some (.bool false) ∧ (w.alloc (.cells #[] 46)).frozen? ⟨h, 0, none⟩ = false ∧ Below B0 w (w.alloc (.cells #[] 46)) ∧ w.heap.size ≤ (w.alloc (.cells #[] 46)).heap.size) :=
    Lib.hid ⟨by rw [World.cell?_alloc_past _ _ _ hg]; exact cg, by rw [World.cell?_alloc_past _ _ _ hh]; exact ch, by rw [World.frozen?_of_block (w := w) (Below.heap_alloc w _ h hh)]; exact fh, hb1, by simp⟩
  clear ha hH cg ch fh hb1
  go_enter Tryd.func43, Tryd.ntmps43
  go_wp2
  go_loopw [5, 11] (fun v i wr => ∃ k : Nat, k ≤ l.length ∧ i = .int .i64 (k : Int) ∧ Own wr w.heap.size v (setl n false (l.take k)) ∧ (wr.cell? ⟨g, 0, none⟩ = some (.string ⟨n.toArray⟩) ∧ wr.cell? ⟨h, 0, none⟩ = some (.bool (sn n (l.take k))) ∧ wr.frozen? ⟨h, 0, none⟩ = false ∧ Below B0 w wr ∧ w.heap.size ≤ wr.heap.size)) (fun _ i _ => l.length - (intOf i).toNat)
  case atStart => exact ⟨0, Nat.zero_le _, rfl, by rw [List.take_zero]; exact HO.out, HS.out⟩
  case round =>
    clear HO HS
    obtain ⟨k, hk, rfl, hown, cg, ch, fh, hb, hsz⟩ := hrel
    by_cases hlt : k < l.length
    · obtain ⟨b, off, rfl, hbl, hc⟩ := HA.out (by omega)
      obtain ⟨c1, c2⟩ := at_below hc hb hbl k hlt
      have HM := Lib.hid (setl_more (n := n) hlt)
      have HN := Lib.hid (sn_more (n := n) hlt)
      generalize hx : l.getD k nofld = f at c1 c2 HM HN
      clear hx hc
      obtain ⟨x, y⟩ := f
      unfold sv at c1 c2
      simp only at HM HN
      generalize sn n (l.take k) = s at ch HM HN
      have hgr : g < wr.heap.size := by omega
      have hhr : h < wr.heap.size := by omega
      have HCL := Lib.hid (set_closure g h n x y s (wr.alloc (.cells #[.string ⟨x.toArray⟩, .string ⟨y.toArray⟩] 46)) hgh (by rw [World.size_alloc]; omega) (by rw [World.size_alloc]; omega) (by rw [World.cell?_alloc_past _ _ _ hgr]; exact cg) (by rw [World.cell?_alloc_past _ _ _ hhr]; exact ch) (by rw [World.frozen?_of_block (w := wr) (Below.heap_alloc wr _ h hhr)]; exact fh))
      have HF : Hid (∀ w1 : World, w1 = ((wr.alloc (.cells #[.string ⟨x.toArray⟩, .string ⟨y.toArray⟩] 46)).setCell ⟨h, 0, none⟩ (.bool (s || (x == n)))).alloc (.cells #[.string ⟨x.toArray⟩, .string ⟨y.toArray⟩] 46) → _) := Lib.hid (fun w1 e => cl_facts (q' := .bool (s || (x == n))) hb (Nat.le_trans hBw hsz) hB0 hhr hgr hgh cg ch fh e)
      have HW : Hid (∀ w1 : World, w1 = ((wr.alloc (.cells #[.string ⟨x.toArray⟩, .string ⟨y.toArray⟩] 46)).setCell ⟨h, 0, none⟩ (.bool (s || (x == n)))).alloc (.cells #[.string ⟨x.toArray⟩, .string ⟨y.toArray⟩] 46) → Own w1 w.heap.size u5 (setl n false (l.take k))) := Lib.hid (fun w1 e => cl_own (w := w) hown hh e)
      clear hb hown cg ch fh
      go_wp2_with (fail)
      go_at_call 44
      refine HCL.out.mono ?_
      rintro e w1 ⟨he, hw1⟩
      obtain ⟨d1, d2, dg, dh, fh1, hb1, hs1⟩ := HF.out w1 hw1
      have hown := HW.out w1 hw1
      have hle : wr.heap.size + 2 ≤ w1.heap.size := by omega
      clear hw1 HF HW HCL hs1
      rw [← HN.out] at dh
      obtain ⟨r, hr⟩ : ∃ r, r = (!(x == n) || !s) := ⟨_, rfl⟩
      rw [← hr] at he
      have HG := Lib.hid (And.intro dg (And.intro dh (And.intro fh1 hb1)))
      clear dg dh fh1 hb1
      cases r
      · have HM' : Hid (setl n false (l.take (k + 1)) = setl n false (l.take k)) := Lib.hid (by
          rw [HM.out, if_pos (r_no hr), List.append_nil])
        clear hr
        subst he
        have HO := Lib.hid hown
        clear hown
        go_wp2
        go_roundw
        case rel => exact ⟨k + 1, by omega, by go_num, by rw [HM'.out]; exact HO.out, HG.out.1, HG.out.2.1, HG.out.2.2.1, HG.out.2.2.2, by omega⟩
        case measure => simp [intOf]; omega
      · have HM' : Hid (setl n false (l.take (k + 1)) = setl n false (l.take k) ++ [(x, y)]) := Lib.hid (by
          rw [HM.out, if_neg (r_yes hr)])
        clear hr
        subst he
        have hL := fcs_len (setl n false (l.take k))
        have HL := Lib.hid (show (setl n false (l.take k)).length ≤ 1048576 by have h1 := setl_len n false (l.take k); have h2 := List.length_take_le' k l; omega)
        go_wp2_with (at_builtin; go_loud (refine wpList_append_own _ rfl (.tmp 18) (.tmp 20) 34 rfl w.heap.size 46 i0 (.agg #[.string ⟨#[]⟩, .string ⟨#[]⟩]) 2 32 Tryd.underlying34 hi hz0 hz1 hz2 rfl (by decide) _ _ _ rfl (hown.alloc _) ⟨w1.heap.size, 0, none⟩ 1 1 [.string ⟨x.toArray⟩, .string ⟨y.toArray⟩] rfl rfl (news_two _ _ _ _) (two_one (x, y)) (by have := HL.out; unfold maxLen; omega) (by have := HL.out; omega) (by simp; omega) ?_); intro v1 w2 hown1 hg2 _)
        have R : Hid (Own w2 w.heap.size v1 (setl n false (l.take k) ++ [(x, y)])) := Lib.hid (by show w2.ownsRow _ _ _ _ (setl n false (l.take k) ++ [(x, y)]).length (fcs (setl n false (l.take k) ++ [(x, y)])); rw [List.length_append, fcs_more]; exact hown1)
        have hown' := hown
        have hrow : ∀ k, Value.ownBlock _ = some k → w.heap.size ≤ k ∧ k < w1.heap.size := fun k e => hown'.lt k e
        have RG := Lib.hid (And.intro (hg2.cell (a := ⟨g, 0, none⟩) (by rw [World.cell?_alloc_past _ _ _ (by show g < _; omega)]; exact HG.out.1) (fun e => by have := (hrow g e.symm).1; omega)) (And.intro (hg2.cell (a := ⟨h, 0, none⟩) (by rw [World.cell?_alloc_past _ _ _ (by show h < _; omega)]; exact HG.out.2.1) (fun e => by have := (hrow h e.symm).1; omega)) (And.intro (show w2.frozen? ⟨h, 0, none⟩ = false by
          rw [World.frozen?_of_block (w := w1.alloc (.cells #[.string ⟨x.toArray⟩, .string ⟨y.toArray⟩] 46)) (hg2.block h (by rw [World.size_alloc]; omega) (fun e => by have := (hrow h e.symm).1; omega)), World.frozen?_of_block (w := w1) (Below.heap_alloc w1 _ h (by omega))]
          exact HG.out.2.2.1) (And.intro ((HG.out.2.2.2.alloc (by omega) _).grown hg2 (by rw [World.size_alloc]; omega) (fun k e => by have := (hrow k e).1; omega)) (show w.heap.size ≤ w2.heap.size by have := hg2.size; rw [World.size_alloc] at this; omega)))))
        clear hown hown' hown1 hg2 hrow
        go_wp2
        go_roundw
        case rel => exact ⟨k + 1, by omega, by go_num, by rw [HM'.out]; exact R.out, RG.out⟩
        case measure => simp [intOf]; omega
    · have HE : Hid (l.take k = l) := Lib.hid (by rw [List.take_of_length_le (by omega)])
      rw [HE.out] at hown ch
      have HR := Lib.hid (And.intro hown (And.intro cg (And.intro ch hb)))
      clear hown cg ch fh hb
      go_wp2
      go_ret
      exact ⟨_, rfl, HR.out.1, HR.out.2.1, HR.out.2.2.1, HR.out.2.2.2⟩
end Go.Proofs.YtobhdfkhfmpdlaaDoor.Flds
