/-
  CONTRACT of the laws' toResourceS (written by nst.py): a copy whose lists are the call's own. Nothing that was there before is changed.
-/
import Derived.Test.YtggokmhdmnkoiaaRsl
import Derived.Test.YtggokmhdmnkoiaaResCp
import Derived.RegionTactic
import Derived.LoopTactic
namespace Go.Proofs.Ytggokmhdmnkoiaa.Rsl
open Go Go.RowKit
set_option linter.unusedVariables false
set_option maxRecDepth 1000000
set_option maxRecDepth 1000000

theorem info_r : (Try.prog.info? 69).map (fun i => (i.zero, i.size, i.bytes)) = some (some (.agg #[.string ⟨#[]⟩, .string ⟨#[]⟩, .string ⟨#[]⟩, .bool false, .slice none 0 0, .slice none 0 0]), 6, 104) := by kernel_rfl
/-- A row whose lists are one's own. -/
def RDO (w : World) (B : Nat) (c : List Value) (e : T) : Prop := ∃ uu uv : Value, c = [.string ⟨e.et.toArray⟩, .string ⟨e.ec.toArray⟩, .string ⟨e.ek.toArray⟩, .bool e.ep, uu, uv] ∧ Strs.Own w B uu e.egs ∧ Ver.Own w B uv e.evs
theorem rdo_below {w w' : World} {B : Nat} {c : List Value} {e : T} (h : RDO w B c e) (hb : Below w.heap.size w w') : RDO w' B c e := by
  obtain ⟨uu, uv, hc, huu, huv⟩ := h
  exact ⟨uu, uv, hc, Rec.row_below huu hb, Rec.row_below huv hb⟩
theorem rdo_mono {w : World} {B B' : Nat} {c : List Value} {e : T} (h : RDO w B c e) (hB : B' ≤ B) : RDO w B' c e := by
  obtain ⟨uu, uv, hc, huu, huv⟩ := h
  exact ⟨uu, uv, hc, Rec.own_mono huu hB, Rec.own_mono huv hB⟩
theorem rdo_set {w : World} {B g : Nat} {c : List Value} {e : T} (h : RDO w B c e) (hg : g < B) (o : Nat) (u : Value) : RDO (w.setCell ⟨g, o, none⟩ u) B c e := by
  obtain ⟨uu, uv, hc, huu, huv⟩ := h
  exact ⟨uu, uv, hc, ownsRow_setCell_other huu (fun e => by have h9 := (huu.lt _ e).1; simp at h9; omega) u, ownsRow_setCell_other huv (fun e => by have h9 := (huv.lt _ e).1; simp at h9; omega) u⟩
theorem rdo_rd {w : World} {B : Nat} {c : List Value} {e : T} (h : RDO w B c e) : RD w w.heap.size c e := by
  obtain ⟨uu, uv, hc, huu, huv⟩ := h
  exact ⟨uu, uv, hc, Strs.own_holds huu, Ver.own_holds huv⟩
def Own (w : World) (B : Nat) (v : Value) (l : List T) : Prop := ∃ rows : List (Nst.Row 6), rows.length = l.length ∧ w.ownsRow B 69 6 v l.length (Rec.flat Nst.cs rows) ∧ ∀ j, j < l.length → RDO w B (rows.getD j (Nst.nov 6)).l (l.getD j nov)
theorem own_below {w w' : World} {B : Nat} {v : Value} {l : List T} (h : Own w B v l) (hb : Below w.heap.size w w') : Own w' B v l := by
  obtain ⟨rows, h1, h2, h3⟩ := h
  exact ⟨rows, h1, Rec.row_below h2 hb, fun j hj => rdo_below (h3 j hj) hb⟩
theorem own_mono {w : World} {B B' : Nat} {v : Value} {l : List T} (h : Own w B v l) (hB : B' ≤ B) : Own w B' v l := by
  obtain ⟨rows, h1, h2, h3⟩ := h
  exact ⟨rows, h1, Rec.own_mono h2 hB, fun j hj => rdo_mono (h3 j hj) hB⟩
theorem own_set {w : World} {B g : Nat} {v : Value} {l : List T} (h : Own w B v l) (hg : g < B) (o : Nat) (u : Value) : Own (w.setCell ⟨g, o, none⟩ u) B v l := by
  obtain ⟨rows, h1, h2, h3⟩ := h
  exact ⟨rows, h1, ownsRow_setCell_other h2 (fun e => by have h9 := (h2.lt _ e).1; simp at h9; omega) u, fun j hj => rdo_set (h3 j hj) hg o u⟩
theorem own_holds {w : World} {B : Nat} {v : Value} {l : List T} (h : Own w B v l) : Holds w w.heap.size v l := by
  obtain ⟨rows, h1, h2, h3⟩ := h
  rw [← h1] at h2
  exact ⟨rows, h1, Rec.own_holds Nst.cs_len (by decide) h2, fun j hj => rdo_rd (h3 j hj)⟩
theorem own_shape {w : World} {B : Nat} {v : Value} {l : List T} (h : Own w B v l) : ∃ a cap, v = .slice a l.length cap ∧ True := by
  obtain ⟨rows, h1, h2, h3⟩ := h
  obtain ⟨a, cap, h, _⟩ := Rec.shape_at h2
  exact ⟨a, cap, h, trivial⟩
def Copied (l : List T) (w : World) (e : Ending) (w' : World) : Prop := ∃ v, e = .returned v ∧ Own w' w.heap.size v l ∧ Below w.heap.size w w'
def zrow : Nst.Row 6 := ⟨[.string ⟨#[]⟩, .string ⟨#[]⟩, .string ⟨#[]⟩, .bool false, .slice none 0 0, .slice none 0 0], rfl⟩

theorem copy_nil (a : Option Addr) (cap : Nat) (w : World) :
    Calls Try.prog 37 #[.slice a 0 cap] w (Copied [] w) := by
  obtain ⟨i0, hi, hz0, hz1, hz2⟩ := info_parts info_r
  go_enter Try.func37, Try.ntmps37
  go_wp2_with (refine wpList_make_full _ (by rfl) (.tmp 6) (.tmp 6) 43 (by rfl) w.heap.size 69 i0 (.agg #[.string ⟨#[]⟩, .string ⟨#[]⟩, .string ⟨#[]⟩, .bool false, .slice none 0 0, .slice none 0 0]) 6 Try.underlying43 hi hz0 hz1 .i64 .i64 _ _ 0 (by rfl) (by rfl) rfl rfl (by rw [hz2]; omega) (by decide) (Nat.le_refl _) ?_; intro w1 hown hgrow)
  have e := Rec.made_flat (n := 6) (cs := Nst.cs) (z := zrow) Nst.cs_len (by decide) 0 (Value.agg #[.string ⟨#[]⟩, .string ⟨#[]⟩, .string ⟨#[]⟩, .bool false, .slice none 0 0, .slice none 0 0]).cells rfl
  rw [e] at hown
  clear e
  go_loop [4] (fun i => i = .int .i64 0) (fun i => 0)
  case atStart => rfl
  case round =>
    obtain rfl := hrel
    go_wp2
    go_ret
    exact ⟨_, rfl, ⟨[], rfl, hown, fun j hj => absurd hj (Nat.not_lt_zero _)⟩, (Below.refl _ _).grown hgrow (Nat.le_refl _) (fun k e => by cases e)⟩

set_option maxHeartbeats 4000000 in
theorem copy_some (b off cap B : Nat) (l : List T) (rows : List (Nst.Row 6)) (w : World) (hc : Rec.At 6 Nst.cs (Nst.nov 6) w b off rows) (hlen : rows.length = l.length) (hbB : b < B) (hB : B ≤ w.heap.size) (hr : ∀ j, j < l.length → RD w B (rows.getD j (Nst.nov 6)).l (l.getD j nov)) (h0 : 0 < l.length) (hl : l.length ≤ 1048576) (ht : ∀ f ∈ l, f.egs.length ≤ 1048576 ∧ f.evs.length ≤ 1048576) :
    Calls Try.prog 37 #[.slice (some ⟨b, off, none⟩) l.length cap] w (Copied l w) := by
  obtain ⟨i0, hi, hz0, hz1, hz2⟩ := info_parts info_r
  have hbl : b < w.heap.size := by omega
  have HC := Lib.hid hc
  have HRW := Lib.hid hr
  have HLN := Lib.hid hlen
  have HTT := Lib.hid ht
  clear hc hr hlen ht
  go_enter Try.func37, Try.ntmps37
  go_wp2_with (at_make; refine wpList_make_full _ rfl (.tmp 6) (.tmp 6) 43 rfl w.heap.size 69 i0 (.agg #[.string ⟨#[]⟩, .string ⟨#[]⟩, .string ⟨#[]⟩, .bool false, .slice none 0 0, .slice none 0 0]) 6 Try.underlying43 hi hz0 hz1 .i64 .i64 _ _ l.length rfl rfl rfl rfl (by rw [hz2]; omega) (by unfold maxLen; omega) (Nat.le_refl _) ?_; intro w1 hown hgrow)
  rw [Rec.made_flat (n := 6) (cs := Nst.cs) (z := zrow) Nst.cs_len (by decide) l.length (Value.agg #[.string ⟨#[]⟩, .string ⟨#[]⟩, .string ⟨#[]⟩, .bool false, .slice none 0 0, .slice none 0 0]).cells rfl] at hown
  have hb1 : Below w.heap.size w w1 := (Below.refl _ _).grown hgrow (Nat.le_refl _) (fun k e => by cases e)
  clear hgrow hi hz0 hz1 hz2
  have HO := Lib.hid hown
  clear hown
  go_loopw [4] (fun ix wr => ∃ j0 : Nat, j0 ≤ l.length ∧ ix = .int .i64 j0 ∧
      (∃ rw0 : List (Nst.Row 6), rw0.length = l.length ∧ wr.ownsRow w.heap.size 69 6 (.slice (some ⟨w.heap.size, 0, none⟩) l.length l.length) l.length (Rec.flat Nst.cs rw0) ∧ ∀ j, j < j0 → RDO wr (w.heap.size + 1) (rw0.getD j (Nst.nov 6)).l (l.getD j nov)) ∧ Below w.heap.size w wr) (fun ix _ => l.length - (intOf ix).toNat)
  case atStart => exact ⟨0, Nat.zero_le _, rfl, ⟨List.replicate l.length zrow, by simp, HO.out, fun j hj => absurd hj (Nat.not_lt_zero _)⟩, hb1⟩
  case round =>
    obtain ⟨j0, hk, rfl, ⟨rw0, hrl, hown, hold⟩, hb⟩ := hrel
    clear HO hb1
    by_cases hlt : j0 < l.length
    · have hA := Rec.at_below HC.out (hb.mono (by omega)) hbB
      have hT := HTT.out _ (Rec.getD_mem (z := nov) hlt)
      have hrk := rd_below (hb.mono hB) (HRW.out j0 hlt)
      have HG : Hid (l.getD j0 nov = l.getD j0 nov) := Lib.hid rfl
      generalize hf : l.getD j0 nov = f at hrk hT
      obtain ⟨et, ec, ek, ep, egs, evs⟩ := f
      have HF := Lib.hid hf
      obtain ⟨uu, uv, hcs, huu, huv⟩ := hrk
      dsimp only at hcs huu huv hT
      have cc0 : wr.cell? ⟨b, off + j0 * 6, none⟩ = some (.string ⟨et.toArray⟩) := Nst.at_cell (i := 0) hA (by rw [HLN.out]; exact hlt) hcs rfl
      have cc1 : wr.cell? ⟨b, off + j0 * 6 + 1, none⟩ = some (.string ⟨ec.toArray⟩) := Nst.at_cell (i := 1) hA (by rw [HLN.out]; exact hlt) hcs rfl
      have cc2 : wr.cell? ⟨b, off + j0 * 6 + 2, none⟩ = some (.string ⟨ek.toArray⟩) := Nst.at_cell (i := 2) hA (by rw [HLN.out]; exact hlt) hcs rfl
      have cc3 : wr.cell? ⟨b, off + j0 * 6 + 3, none⟩ = some (.bool ep) := Nst.at_cell (i := 3) hA (by rw [HLN.out]; exact hlt) hcs rfl
      have cc4 : wr.cell? ⟨b, off + j0 * 6 + 4, none⟩ = some (uu) := Nst.at_cell (i := 4) hA (by rw [HLN.out]; exact hlt) hcs rfl
      have cc5 : wr.cell? ⟨b, off + j0 * 6 + 5, none⟩ = some (uv) := Nst.at_cell (i := 5) hA (by rw [HLN.out]; exact hlt) hcs rfl
      have HS := Lib.hid (Res.copy_res et ec ek ep uu egs uv evs B wr huu huv (Nat.le_trans hB hb.size) hT.1 hT.2)
      unfold Res.Copied at HS
      have hgl := (hown.lt _ rfl).2
      have HO := Lib.hid hown
      have HD := Lib.hid hold
      have HB := Lib.hid hb
      have HRL := Lib.hid hrl
      clear hb hA hcs hT hown hold hrl hf huu huv
      go_wp2_with (go_at_call 54; refine HS.out.mono ?_; rintro e w' ⟨v_uu, v_uv, rfl, o_uu, o_uv, hb1⟩; obtain ⟨a_uu, c_uu, rfl, _⟩ := Rec.shape_at o_uu; obtain ⟨a_uv, c_uv, rfl, _⟩ := Rec.shape_at o_uv; have HB1 := Lib.hid (Base.then_below HB.out hb1); have HOO := Lib.hid (Rec.row_below HO.out hb1); have HDD := Lib.hid (fun j hj => rdo_below (HD.out j hj) hb1); have HN_uu := Lib.hid (Rec.own_mono (B' := w.heap.size + 1) o_uu (by omega)); have HN_uv := Lib.hid (Rec.own_mono (B' := w.heap.size + 1) o_uv (by omega)); obtain ⟨x0, d0⟩ : ∃ u, w'.cell? ⟨w.heap.size, j0 * 6, none⟩ = some u := Nst.own_some (i := 0) (by decide) HOO.out hlt (by decide); have f0 := HOO.out.frozenAt (j0 * 6); obtain ⟨x1, d1⟩ : ∃ u, w'.cell? ⟨w.heap.size, j0 * 6 + 1, none⟩ = some u := Nst.own_some (i := 1) (by decide) HOO.out hlt (by decide); have f1 := HOO.out.frozenAt (j0 * 6 + 1); obtain ⟨x2, d2⟩ : ∃ u, w'.cell? ⟨w.heap.size, j0 * 6 + 2, none⟩ = some u := Nst.own_some (i := 2) (by decide) HOO.out hlt (by decide); have f2 := HOO.out.frozenAt (j0 * 6 + 2); obtain ⟨x3, d3⟩ : ∃ u, w'.cell? ⟨w.heap.size, j0 * 6 + 3, none⟩ = some u := Nst.own_some (i := 3) (by decide) HOO.out hlt (by decide); have f3 := HOO.out.frozenAt (j0 * 6 + 3); obtain ⟨x4, d4⟩ : ∃ u, w'.cell? ⟨w.heap.size, j0 * 6 + 4, none⟩ = some u := Nst.own_some (i := 4) (by decide) HOO.out hlt (by decide); have f4 := HOO.out.frozenAt (j0 * 6 + 4); obtain ⟨x5, d5⟩ : ∃ u, w'.cell? ⟨w.heap.size, j0 * 6 + 5, none⟩ = some u := Nst.own_some (i := 5) (by decide) HOO.out hlt (by decide); have f5 := HOO.out.frozenAt (j0 * 6 + 5); clear hb1 o_uu o_uv)
      have s0 := HOO.out.stored (j0 * 6) (.string ⟨et.toArray⟩)
      have s1 := s0.1.stored (j0 * 6 + 1) (.string ⟨ec.toArray⟩)
      have s2 := s1.1.stored (j0 * 6 + 2) (.string ⟨ek.toArray⟩)
      have s3 := s2.1.stored (j0 * 6 + 3) (.bool ep)
      have s4 := s3.1.stored (j0 * 6 + 4) (.slice a_uu egs.length c_uu)
      have s5 := s4.1.stored (j0 * 6 + 5) (.slice a_uv evs.length c_uv)
      have e' := Rec.flat_put (n := 6) (cs := Nst.cs) Nst.cs_len (l := rw0) (k := j0) ⟨[.string ⟨et.toArray⟩, .string ⟨ec.toArray⟩, .string ⟨ek.toArray⟩, .bool ep, .slice a_uu egs.length c_uu, .slice a_uv evs.length c_uv], rfl⟩ (by rw [HRL.out]; exact hlt)
      have hE := Lib.hid e'
      clear e'
      have z0 := HB1.out.size
      have z1 := s0.2.size
      have z2 := s1.2.size
      have z3 := s2.2.size
      have z4 := s3.2.size
      have z5 := s4.2.size
      have hzl := s5.2.size
      have hbb := ((((((HB1.out.grown s0.2 (by omega) (fun j e => by cases e; exact Nat.le_refl _)).grown s1.2 (by omega) (fun j e => by cases e; exact Nat.le_refl _)).grown s2.2 (by omega) (fun j e => by cases e; exact Nat.le_refl _)).grown s3.2 (by omega) (fun j e => by cases e; exact Nat.le_refl _)).grown s4.2 (by omega) (fun j e => by cases e; exact Nat.le_refl _)).grown s5.2 (by omega) (fun j e => by cases e; exact Nat.le_refl _))
      go_roundw
      case rel =>
        refine ⟨j0 + 1, by omega, by go_num, ⟨rw0.set j0 (⟨[.string ⟨et.toArray⟩, .string ⟨ec.toArray⟩, .string ⟨ek.toArray⟩, .bool ep, .slice a_uu egs.length c_uu, .slice a_uv evs.length c_uv], rfl⟩ : Nst.Row 6), by rw [List.length_set]; exact HRL.out, by rw [← hE.out]; exact s5.1, fun j hj => ?_⟩, hbb⟩
        by_cases hje : j = j0
        · subst hje
          have HQ : RDO w' (w.heap.size + 1) (Nst.Row.l (⟨[.string ⟨et.toArray⟩, .string ⟨ec.toArray⟩, .string ⟨ek.toArray⟩, .bool ep, .slice a_uu egs.length c_uu, .slice a_uv evs.length c_uv], rfl⟩ : Nst.Row 6)) (l.getD j nov) := by rw [HF.out]; exact ⟨_, _, rfl, HN_uu.out, HN_uv.out⟩
          rw [Nst.get_same (by rw [HRL.out]; exact hlt)]
          exact (rdo_set (rdo_set (rdo_set (rdo_set (rdo_set (rdo_set HQ (Nat.lt_succ_self _) (j * 6) (.string ⟨et.toArray⟩)) (Nat.lt_succ_self _) (j * 6 + 1) (.string ⟨ec.toArray⟩)) (Nat.lt_succ_self _) (j * 6 + 2) (.string ⟨ek.toArray⟩)) (Nat.lt_succ_self _) (j * 6 + 3) (.bool ep)) (Nat.lt_succ_self _) (j * 6 + 4) (.slice a_uu egs.length c_uu)) (Nat.lt_succ_self _) (j * 6 + 5) (.slice a_uv evs.length c_uv))
        · have HQ := HDD.out j (by omega)
          rw [Nst.get_ne hje]
          exact (rdo_set (rdo_set (rdo_set (rdo_set (rdo_set (rdo_set HQ (Nat.lt_succ_self _) (j0 * 6) (.string ⟨et.toArray⟩)) (Nat.lt_succ_self _) (j0 * 6 + 1) (.string ⟨ec.toArray⟩)) (Nat.lt_succ_self _) (j0 * 6 + 2) (.string ⟨ek.toArray⟩)) (Nat.lt_succ_self _) (j0 * 6 + 3) (.bool ep)) (Nat.lt_succ_self _) (j0 * 6 + 4) (.slice a_uu egs.length c_uu)) (Nat.lt_succ_self _) (j0 * 6 + 5) (.slice a_uv evs.length c_uv))
      case measure => simp [intOf]; omega
    · obtain rfl : j0 = l.length := by omega
      go_wp2
      go_ret
      exact ⟨_, rfl, ⟨rw0, hrl, hown, fun j hj => rdo_mono (hold j hj) (Nat.le_succ _)⟩, hb⟩

theorem copy (v : Value) (B : Nat) (l : List T) (w : World) (h : Holds w B v l) (hB : B ≤ w.heap.size) (hl : l.length ≤ 1048576) (ht : ∀ f ∈ l, f.egs.length ≤ 1048576 ∧ f.evs.length ≤ 1048576) :
    Calls Try.prog 37 #[v] w (Copied l w) := by
  rcases Nst.holds_cases h with ⟨rfl, a, cap, rfl⟩ | ⟨hp, b, off, cap, rfl, hb, _, rows, h1, h2, h4⟩
  · exact copy_nil a cap w
  · exact copy_some b off cap B l rows w h2 h1 hb hB h4 hp hl ht
end Go.Proofs.Ytggokmhdmnkoiaa.Rsl
