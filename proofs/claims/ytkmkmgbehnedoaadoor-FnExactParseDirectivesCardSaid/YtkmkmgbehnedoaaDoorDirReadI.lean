/-
  CONTRACT of the program's ParseDirectives: the directives of a text, in memory of its own; nothing that was there before is changed.
-/
import Derived.Test.YtkmkmgbehnedoaaDoorDirPd
import Derived.Test.YtkmkmgbehnedoaaDoorSplImpl
import Derived.Test.YtkmkmgbehnedoaaDoorSplLen
import Derived.Outline
namespace Go.Proofs.YtkmkmgbehnedoaaDoor.Dir
open Go Go.RowKit
set_option linter.unusedVariables false

def Parsed (s : List UInt8) (w : World) (e : Ending) (w' : World) : Prop := ∃ v, e = .returned v ∧ Own w' w.heap.size v (dparse s) ∧ Below w.heap.size w w'
theorem ret_parsed {s : List UInt8} {w wr : World} {u : Value} {l : List T} (he : l = dparse s) (ho : Own wr w.heap.size u l) (hb : Below w.heap.size w wr) : Parsed s w (.returned u) wr := by subst he; exact ⟨u, rfl, ho, hb⟩

set_option maxHeartbeats 4000000 in
theorem impl_parse (l : List UInt8) (w : World) (hl : l.length ≤ 1048576) (hv : Errs w) :
    Calls Tryd.prog 40 #[.string ⟨l.toArray⟩] w (Parsed l w) := by
  obtain ⟨i0, hi, hz0, hz1, hz2⟩ := info_parts info_r
  have HS := Lib.hid (fun W => Tx.impl_split ⟨l.toArray⟩ W hl)
  have HEL := Lib.hid (Tx.split_elem l)
  have HCN := Lib.hid (Tx.split_count l)
  have HV := Lib.hid hv
  have HO := Lib.hid (own_lit_nil w)
  have HDP : Hid (dparse l = dparts (Tx.split l)) := Lib.hid rfl
  clear hv
  go_enter Tryd.func40, Tryd.ntmps40
  go_wp2_with (fail)
  go_at_call 98
  refine (HS.out _).mono ?_
  rintro e w1 ⟨vx, rfl, ox, hb1⟩
  have HOX : Hid (w1.ownsRow w.heap.size 9 1 vx (Tx.split l).length (Strs.svs (Tx.split l))) := Lib.hid (Rec.own_mono ox (by simp))
  have HO := Lib.hid (Rec.row_below HO.out hb1)
  have HB := Lib.hid (((Below.refl w.heap.size w).alloc (Nat.le_refl _) (.cells #[] 59)).trans (hb1.mono (by simp)))
  clear ox hb1 HS
  generalize Tx.split l = xs at *
  obtain ⟨ax, cx, rfl, hax⟩ := Rec.shape_at HOX.out
  have HAX := Lib.hid hax
  have hxl : xs.length ≤ 1048577 := by have := HCN.out; omega
  clear hax
  go_wp2
  go_loopw [3, 12] (fun u i wr => ∃ k : Nat, k ≤ xs.length ∧ i = .int .i64 (k : Int) ∧ wr.ownsRow w.heap.size 59 3 u (dparts (xs.take k)).length (fcs (dparts (xs.take k))) ∧ wr.ownsRow w.heap.size 9 1 (.slice ax xs.length cx) xs.length (Strs.svs xs) ∧ Below w.heap.size w wr) (fun _ i _ => xs.length - (intOf i).toNat)
  case atStart => exact ⟨0, Nat.zero_le _, rfl, HO.out, HOX.out, HB.out⟩
  case round =>
    clear HO HOX HB
    obtain ⟨k, hk, rfl, hown, hox, hb⟩ := hrel
    have HVR := Lib.hid (errs_below HV.out hb)
    have HB := Lib.hid hb
    have HOX := Lib.hid hox
    have HO := Lib.hid hown
    clear hown hox hb
    by_cases hlt : k < xs.length
    · obtain ⟨gx, rfl⟩ := HAX.out (by omega)
      have c0 := Strs.own_cell HOX.out hlt
      have HXL : Hid ((xs.getD k []).length ≤ 1048576) := Lib.hid (Nat.le_trans (HEL.out _ (Rec.getD_mem (z := []) hlt)) hl)
      have HDL : Hid ((dparts (xs.take k)).length ≤ 1048577) := Lib.hid (by have h1 := dparts_len (xs.take k); rw [List.length_take] at h1; omega)
      unfold Strs.sv at c0
      have HR : Hid (∀ d, dread (xs.getD k []) = some d → dparts (xs.take (k + 1)) = dparts (xs.take k) ++ [d]) := Lib.hid (fun d hd => dparts_yes hlt hd)
      have HN : Hid (dread (xs.getD k []) = none → dparts (xs.take (k + 1)) = dparts (xs.take k)) := Lib.hid (fun hd => dparts_no hlt hd)
      generalize xs.getD k [] = x at c0 HXL HR HN
      cases hd : dread x with
      | none =>
        have HP := Lib.hid (pd_no wr hd HXL.out HVR.out)
        have HM := Lib.hid (HN.out hd)
        clear hd HR HN
        go_wp2_with (fail)
        go_at_call 99
        refine HP.out.mono ?_
        rintro e w2 ⟨⟨tp, p, rfl⟩, hb2⟩
        have HO := Lib.hid (row_below HO.out hb2)
        have HOX := Lib.hid (Rec.row_below HOX.out hb2)
        have HB := Lib.hid (Base.then_below HB.out hb2)
        clear hb2
        unfold fv
        dsimp only
        have HA : Hid (∀ a, Below w2.heap.size w2 (w2.alloc (.cells a 59))) := Lib.hid (fun a => (Below.refl _ _).alloc (Nat.le_refl _) _)
        go_wp2
        go_roundw
        case rel => exact ⟨k + 1, by omega, by go_num, by rw [HM.out]; exact row_below HO.out (HA.out _), Rec.row_below HOX.out (HA.out _), Base.then_below HB.out (HA.out _)⟩
        case measure => simp [intOf]; omega
      | some d =>
        have HP := Lib.hid (pd_yes wr hd HXL.out HVR.out)
        have HM := Lib.hid (HR.out d hd)
        clear hd HR HN
        obtain ⟨x0, y0, z0⟩ := d
        unfold PdYes fv at HP
        dsimp only at HP
        go_wp2_with (fail)
        go_at_call 99
        refine HP.out.mono ?_
        rintro e w2 ⟨rfl, hb2⟩
        have HO := Lib.hid (row_below HO.out hb2)
        have HOX := Lib.hid (Rec.row_below HOX.out hb2)
        have HB := Lib.hid (Base.then_below HB.out hb2)
        clear hb2 HP
        generalize dparts (xs.take k) = ds at HO HM HDL
        have HA : Hid (Below w2.heap.size w2 (w2.alloc (.cells #[.string ⟨x0.toArray⟩, .string ⟨y0.toArray⟩, .bool z0] 59))) := Lib.hid ((Below.refl _ _).alloc (Nat.le_refl _) _)
        have hown := row_below HO.out HA.out
        have HOX := Lib.hid (Rec.row_below HOX.out HA.out)
        have HB := Lib.hid (Base.then_below HB.out HA.out)
        have HNE := Lib.hid (Rec.row_apart HOX.out hown (by decide))
        have hL := fcs_len ds
        have HNW := Lib.hid (Rec.news (w2.alloc (.cells #[.string ⟨x0.toArray⟩, .string ⟨y0.toArray⟩, .bool z0] 59)) [.string ⟨x0.toArray⟩, .string ⟨y0.toArray⟩, .bool z0] 59)
        go_wp2_with (at_builtin; refine wpList_append_own _ rfl (.tmp 23) (.tmp 25) 55 rfl w.heap.size 59 i0 (.agg #[.string ⟨#[]⟩, .string ⟨#[]⟩, .bool false]) 3 40 Tryd.underlying55 hi hz0 hz1 hz2 rfl (by decide) _ _ _ rfl (hown.alloc _) ⟨w2.heap.size + 1, 0, none⟩ 1 1 [.string ⟨x0.toArray⟩, .string ⟨y0.toArray⟩, .bool z0] rfl rfl (by have h := HNW.out; rw [World.size_alloc] at h; exact h) (cs_one (x0, y0, z0)) (by have := HDL.out; unfold maxLen; omega) (by have := HDL.out; omega) (by have := HB.out.size; simp at this ⊢; omega) ?_; intro v1 w3 hown1 hg1 _)
        have R := Lib.hid (push_own (f := (x0, y0, z0)) hown HB.out (Nat.le_refl _) hown1 hg1)
        have HA2 := Lib.hid ((Below.refl (w2.alloc (.cells #[.string ⟨x0.toArray⟩, .string ⟨y0.toArray⟩, .bool z0] 59)).heap.size (w2.alloc (.cells #[.string ⟨x0.toArray⟩, .string ⟨y0.toArray⟩, .bool z0] 59))).alloc (Nat.le_refl _) (.cells #[.string ⟨x0.toArray⟩, .string ⟨y0.toArray⟩, .bool z0] 59))
        have ROX := Lib.hid (Rec.row_grown (Rec.row_below HOX.out HA2.out) hg1 HNE.out)
        clear hown hown1 hg1
        go_wp2
        go_roundw
        case rel => exact ⟨k + 1, by omega, by go_num, by rw [HM.out]; exact R.out.1, ROX.out, R.out.2⟩
        case measure => simp [intOf]; omega
    · have HE : Hid (dparts (xs.take k) = dparse l) := Lib.hid (by rw [HDP.out, List.take_of_length_le (by omega)])
      go_wp2
      go_ret
      exact ret_parsed HE.out HO.out HB.out
end Go.Proofs.YtkmkmgbehnedoaaDoor.Dir
