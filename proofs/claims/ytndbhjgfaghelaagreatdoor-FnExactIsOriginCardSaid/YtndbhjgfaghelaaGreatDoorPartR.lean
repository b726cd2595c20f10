/-
  CONTRACTS AND PLAIN FACTS, several texts in one; each says in its own words what it proves.
-/
import Derived.Test.YtndbhjgfaghelaaGreatDoorPartQ
import Derived.RegionTactic
import Derived.LoopTactic
import Derived.Test.YtndbhjgfaghelaaGreatDoorPartO
import Derived.Outline
import Derived.Test.YtndbhjgfaghelaaGreatDoorPartA
import Derived.Lib.SlTrimSet
import Derived.Lib.Case
import Derived.Lib.Strings
set_option linter.unusedSimpArgs false
set_option linter.unusedVariables false

/-
  CONTRACT of the laws' toResourceS (written by nst.py): a copy whose lists are the call's own. Nothing that was there before is changed.
-/
namespace Go.Proofs.YtndbhjgfaghelaaGreatDoor.Rsl
open Go Go.RowKit
set_option linter.unusedVariables false
set_option maxRecDepth 1000000
set_option maxRecDepth 1000000

theorem info_r : (Tryz.prog.info? 107).map (fun i => (i.zero, i.size, i.bytes)) = some (some (.agg #[.string ⟨#[]⟩, .string ⟨#[]⟩, .string ⟨#[]⟩, .bool false, .slice none 0 0, .slice none 0 0]), 6, 104) := by kernel_rfl
/-- A row whose lists are one's own. -/
def RDO (w : World) (B : Nat) (c : List Value) (e : T) : Prop := ∃ uu uv : Value, c = [.string ⟨e.et.toArray⟩, .string ⟨e.ec.toArray⟩, .string ⟨e.ek.toArray⟩, .bool e.ep, uu, uv] ∧ Strs.Own w B uu e.egs ∧ Ver.Own w B uv e.evs
theorem rdo_below {w w' : World} {B : Nat} {c : List Value} {e : T} (h : RDO w B c e) (hb : Below w.heap.size w w') : RDO w' B c e := by
  obtain ⟨uu, uv, hc, huu, huv⟩ := h
  exact ⟨uu, uv, hc, Rec.row_below huu hb, Rec.row_below huv hb⟩
theorem rdo_mono {w : World} {B B' : Nat} {c : List Value} {e : T} (h : RDO w B c e) (hB : B' ≤ B) : RDO w B' c e := by
  obtain ⟨uu, uv, hc, huu, huv⟩ := h
  exact ⟨uu, uv, hc, Rec.own_mono huu hB, Rec.own_mono huv hB⟩
theorem rdo_set {w : World} {B g : Nat} {c : List Value} {e : T} (h : RDO w B c e) (hg : g < B) (o : Nat) (u : Value) : RDO (w.setCell ⟨g, o, none⟩ u) B c e := by
  obtain ⟨uu, uv, hc, huu, huv⟩ := h
  exact ⟨uu, uv, hc, ownsRow_setCell_other huu (fun e => by have h9 := (huu.lt _ e).1; simp at h9; omega) u, ownsRow_setCell_other huv (fun e => by have h9 := (huv.lt _ e).1; simp at h9; omega) u⟩
theorem rdo_rd {w : World} {B : Nat} {c : List Value} {e : T} (h : RDO w B c e) : RD w w.heap.size c e := by
  obtain ⟨uu, uv, hc, huu, huv⟩ := h
  exact ⟨uu, uv, hc, Strs.own_holds huu, Ver.own_holds huv⟩
def Own (w : World) (B : Nat) (v : Value) (l : List T) : Prop := ∃ rows : List (Nst.Row 6), rows.length = l.length ∧ w.ownsRow B 107 6 v l.length (Rec.flat Nst.cs rows) ∧ ∀ j, j < l.length → RDO w B (rows.getD j (Nst.nov 6)).l (l.getD j nov)
theorem own_below {w w' : World} {B : Nat} {v : Value} {l : List T} (h : Own w B v l) (hb : Below w.heap.size w w') : Own w' B v l := by
  obtain ⟨rows, h1, h2, h3⟩ := h
  exact ⟨rows, h1, Rec.row_below h2 hb, fun j hj => rdo_below (h3 j hj) hb⟩
theorem own_mono {w : World} {B B' : Nat} {v : Value} {l : List T} (h : Own w B v l) (hB : B' ≤ B) : Own w B' v l := by
  obtain ⟨rows, h1, h2, h3⟩ := h
  exact ⟨rows, h1, Rec.own_mono h2 hB, fun j hj => rdo_mono (h3 j hj) hB⟩
theorem own_set {w : World} {B g : Nat} {v : Value} {l : List T} (h : Own w B v l) (hg : g < B) (o : Nat) (u : Value) : Own (w.setCell ⟨g, o, none⟩ u) B v l := by
  obtain ⟨rows, h1, h2, h3⟩ := h
  exact ⟨rows, h1, ownsRow_setCell_other h2 (fun e => by have h9 := (h2.lt _ e).1; simp at h9; omega) u, fun j hj => rdo_set (h3 j hj) hg o u⟩
theorem own_holds {w : World} {B : Nat} {v : Value} {l : List T} (h : Own w B v l) : Holds w w.heap.size v l := by
  obtain ⟨rows, h1, h2, h3⟩ := h
  rw [← h1] at h2
  exact ⟨rows, h1, Rec.own_holds Nst.cs_len (by decide) h2, fun j hj => rdo_rd (h3 j hj)⟩
theorem own_shape {w : World} {B : Nat} {v : Value} {l : List T} (h : Own w B v l) : ∃ a cap, v = .slice a l.length cap ∧ True := by
  obtain ⟨rows, h1, h2, h3⟩ := h
  obtain ⟨a, cap, h, _⟩ := Rec.shape_at h2
  exact ⟨a, cap, h, trivial⟩
def Copied (l : List T) (w : World) (e : Ending) (w' : World) : Prop := ∃ v, e = .returned v ∧ Own w' w.heap.size v l ∧ Below w.heap.size w w'
def zrow : Nst.Row 6 := ⟨[.string ⟨#[]⟩, .string ⟨#[]⟩, .string ⟨#[]⟩, .bool false, .slice none 0 0, .slice none 0 0], rfl⟩

theorem copy_nil (a : Option Addr) (cap : Nat) (w : World) :
    Calls Tryz.prog 72 #[.slice a 0 cap] w (Copied [] w) := by
  obtain ⟨i0, hi, hz0, hz1, hz2⟩ := info_parts info_r
  go_enter Tryz.func72, Tryz.ntmps72
  go_wp2_with (refine wpList_make_full _ (by rfl) (.tmp 6) (.tmp 6) 61 (by rfl) w.heap.size 107 i0 (.agg #[.string ⟨#[]⟩, .string ⟨#[]⟩, .string ⟨#[]⟩, .bool false, .slice none 0 0, .slice none 0 0]) 6 Tryz.underlying61 hi hz0 hz1 .i64 .i64 _ _ 0 (by rfl) (by rfl) rfl rfl (by rw [hz2]; omega) (by decide) (Nat.le_refl _) ?_; intro w1 hown hgrow)
  have e := Rec.made_flat (n := 6) (cs := Nst.cs) (z := zrow) Nst.cs_len (by decide) 0 (Value.agg #[.string ⟨#[]⟩, .string ⟨#[]⟩, .string ⟨#[]⟩, .bool false, .slice none 0 0, .slice none 0 0]).cells rfl
  rw [e] at hown
  clear e
  go_loop [4] (fun i => i = .int .i64 0) (fun i => 0)
  case atStart => rfl
  case round =>
    obtain rfl := hrel
    go_wp2
    go_ret
    exact ⟨_, rfl, ⟨[], rfl, hown, fun j hj => absurd hj (Nat.not_lt_zero _)⟩, (Below.refl _ _).grown hgrow (Nat.le_refl _) (fun k e => by cases e)⟩

set_option maxHeartbeats 4000000 in
theorem copy_some (b off cap B : Nat) (l : List T) (rows : List (Nst.Row 6)) (w : World) (hc : Rec.At 6 Nst.cs (Nst.nov 6) w b off rows) (hlen : rows.length = l.length) (hbB : b < B) (hB : B ≤ w.heap.size) (hr : ∀ j, j < l.length → RD w B (rows.getD j (Nst.nov 6)).l (l.getD j nov)) (h0 : 0 < l.length) (hl : l.length ≤ 1048576) (ht : ∀ f ∈ l, f.egs.length ≤ 1048576 ∧ f.evs.length ≤ 1048576) :
    Calls Tryz.prog 72 #[.slice (some ⟨b, off, none⟩) l.length cap] w (Copied l w) := by
  obtain ⟨i0, hi, hz0, hz1, hz2⟩ := info_parts info_r
  have hbl : b < w.heap.size := by omega
  have HC := Lib.hid hc
  have HRW := Lib.hid hr
  have HLN := Lib.hid hlen
  have HTT := Lib.hid ht
  clear hc hr hlen ht
  go_enter Tryz.func72, Tryz.ntmps72
  go_wp2_with (at_make; refine wpList_make_full _ rfl (.tmp 6) (.tmp 6) 61 rfl w.heap.size 107 i0 (.agg #[.string ⟨#[]⟩, .string ⟨#[]⟩, .string ⟨#[]⟩, .bool false, .slice none 0 0, .slice none 0 0]) 6 Tryz.underlying61 hi hz0 hz1 .i64 .i64 _ _ l.length rfl rfl rfl rfl (by rw [hz2]; omega) (by unfold maxLen; omega) (Nat.le_refl _) ?_; intro w1 hown hgrow)
  rw [Rec.made_flat (n := 6) (cs := Nst.cs) (z := zrow) Nst.cs_len (by decide) l.length (Value.agg #[.string ⟨#[]⟩, .string ⟨#[]⟩, .string ⟨#[]⟩, .bool false, .slice none 0 0, .slice none 0 0]).cells rfl] at hown
  have hb1 : Below w.heap.size w w1 := (Below.refl _ _).grown hgrow (Nat.le_refl _) (fun k e => by cases e)
  clear hgrow hi hz0 hz1 hz2
  have HO := Lib.hid hown
  clear hown
  go_loopw [4] (fun ix wr => ∃ j0 : Nat, j0 ≤ l.length ∧ ix = .int .i64 j0 ∧
      (∃ rw0 : List (Nst.Row 6), rw0.length = l.length ∧ wr.ownsRow w.heap.size 107 6 (.slice (some ⟨w.heap.size, 0, none⟩) l.length l.length) l.length (Rec.flat Nst.cs rw0) ∧ ∀ j, j < j0 → RDO wr (w.heap.size + 1) (rw0.getD j (Nst.nov 6)).l (l.getD j nov)) ∧ Below w.heap.size w wr) (fun ix _ => l.length - (intOf ix).toNat)
  case atStart => exact ⟨0, Nat.zero_le _, rfl, ⟨List.replicate l.length zrow, by simp, HO.out, fun j hj => absurd hj (Nat.not_lt_zero _)⟩, hb1⟩
  case round =>
    obtain ⟨j0, hk, rfl, ⟨rw0, hrl, hown, hold⟩, hb⟩ := hrel
    clear HO hb1
    by_cases hlt : j0 < l.length
    · have hA := Rec.at_below HC.out (hb.mono (by omega)) hbB
      have hT := HTT.out _ (Rec.getD_mem (z := nov) hlt)
      have hrk := rd_below (hb.mono hB) (HRW.out j0 hlt)
      have HG : Hid (l.getD j0 nov = l.getD j0 nov) := Lib.hid rfl
      generalize hf : l.getD j0 nov = f at hrk hT
      obtain ⟨et, ec, ek, ep, egs, evs⟩ := f
      have HF := Lib.hid hf
      obtain ⟨uu, uv, hcs, huu, huv⟩ := hrk
      dsimp only at hcs huu huv hT
      have cc0 : wr.cell? ⟨b, off + j0 * 6, none⟩ = some (.string ⟨et.toArray⟩) := Nst.at_cell (i := 0) hA (by rw [HLN.out]; exact hlt) hcs rfl
      have cc1 : wr.cell? ⟨b, off + j0 * 6 + 1, none⟩ = some (.string ⟨ec.toArray⟩) := Nst.at_cell (i := 1) hA (by rw [HLN.out]; exact hlt) hcs rfl
      have cc2 : wr.cell? ⟨b, off + j0 * 6 + 2, none⟩ = some (.string ⟨ek.toArray⟩) := Nst.at_cell (i := 2) hA (by rw [HLN.out]; exact hlt) hcs rfl
      have cc3 : wr.cell? ⟨b, off + j0 * 6 + 3, none⟩ = some (.bool ep) := Nst.at_cell (i := 3) hA (by rw [HLN.out]; exact hlt) hcs rfl
      have cc4 : wr.cell? ⟨b, off + j0 * 6 + 4, none⟩ = some (uu) := Nst.at_cell (i := 4) hA (by rw [HLN.out]; exact hlt) hcs rfl
      have cc5 : wr.cell? ⟨b, off + j0 * 6 + 5, none⟩ = some (uv) := Nst.at_cell (i := 5) hA (by rw [HLN.out]; exact hlt) hcs rfl
      have HS := Lib.hid (Res.copy_res et ec ek ep uu egs uv evs B wr huu huv (Nat.le_trans hB hb.size) hT.1 hT.2)
      unfold Res.Copied at HS
      have hgl := (hown.lt _ rfl).2
      have HO := Lib.hid hown
      have HD := Lib.hid hold
      have HB := Lib.hid hb
      have HRL := Lib.hid hrl
      clear hb hA hcs hT hown hold hrl hf huu huv
      go_wp2_with (go_at_call 118; refine HS.out.mono ?_; rintro e w' ⟨v_uu, v_uv, rfl, o_uu, o_uv, hb1⟩; obtain ⟨a_uu, c_uu, rfl, _⟩ := Rec.shape_at o_uu; obtain ⟨a_uv, c_uv, rfl, _⟩ := Rec.shape_at o_uv; have HB1 := Lib.hid (Base.then_below HB.out hb1); have HOO := Lib.hid (Rec.row_below HO.out hb1); have HDD := Lib.hid (fun j hj => rdo_below (HD.out j hj) hb1); have HN_uu := Lib.hid (Rec.own_mono (B' := w.heap.size + 1) o_uu (by omega)); have HN_uv := Lib.hid (Rec.own_mono (B' := w.heap.size + 1) o_uv (by omega)); obtain ⟨x0, d0⟩ : ∃ u, w'.cell? ⟨w.heap.size, j0 * 6, none⟩ = some u := Nst.own_some (i := 0) (by decide) HOO.out hlt (by decide); have f0 := HOO.out.frozenAt (j0 * 6); obtain ⟨x1, d1⟩ : ∃ u, w'.cell? ⟨w.heap.size, j0 * 6 + 1, none⟩ = some u := Nst.own_some (i := 1) (by decide) HOO.out hlt (by decide); have f1 := HOO.out.frozenAt (j0 * 6 + 1); obtain ⟨x2, d2⟩ : ∃ u, w'.cell? ⟨w.heap.size, j0 * 6 + 2, none⟩ = some u := Nst.own_some (i := 2) (by decide) HOO.out hlt (by decide); have f2 := HOO.out.frozenAt (j0 * 6 + 2); obtain ⟨x3, d3⟩ : ∃ u, w'.cell? ⟨w.heap.size, j0 * 6 + 3, none⟩ = some u := Nst.own_some (i := 3) (by decide) HOO.out hlt (by decide); have f3 := HOO.out.frozenAt (j0 * 6 + 3); obtain ⟨x4, d4⟩ : ∃ u, w'.cell? ⟨w.heap.size, j0 * 6 + 4, none⟩ = some u := Nst.own_some (i := 4) (by decide) HOO.out hlt (by decide); have f4 := HOO.out.frozenAt (j0 * 6 + 4); obtain ⟨x5, d5⟩ : ∃ u, w'.cell? ⟨w.heap.size, j0 * 6 + 5, none⟩ = some u := Nst.own_some (i := 5) (by decide) HOO.out hlt (by decide); have f5 := HOO.out.frozenAt (j0 * 6 + 5); clear hb1 o_uu o_uv)
      have s0 := HOO.out.stored (j0 * 6) (.string ⟨et.toArray⟩)
      have s1 := s0.1.stored (j0 * 6 + 1) (.string ⟨ec.toArray⟩)
      have s2 := s1.1.stored (j0 * 6 + 2) (.string ⟨ek.toArray⟩)
      have s3 := s2.1.stored (j0 * 6 + 3) (.bool ep)
      have s4 := s3.1.stored (j0 * 6 + 4) (.slice a_uu egs.length c_uu)
      have s5 := s4.1.stored (j0 * 6 + 5) (.slice a_uv evs.length c_uv)
      have e' := Rec.flat_put (n := 6) (cs := Nst.cs) Nst.cs_len (l := rw0) (k := j0) ⟨[.string ⟨et.toArray⟩, .string ⟨ec.toArray⟩, .string ⟨ek.toArray⟩, .bool ep, .slice a_uu egs.length c_uu, .slice a_uv evs.length c_uv], rfl⟩ (by rw [HRL.out]; exact hlt)
      have hE := Lib.hid e'
      clear e'
      have z0 := HB1.out.size
      have z1 := s0.2.size
      have z2 := s1.2.size
      have z3 := s2.2.size
      have z4 := s3.2.size
      have z5 := s4.2.size
      have hzl := s5.2.size
      have hbb := ((((((HB1.out.grown s0.2 (by omega) (fun j e => by cases e; exact Nat.le_refl _)).grown s1.2 (by omega) (fun j e => by cases e; exact Nat.le_refl _)).grown s2.2 (by omega) (fun j e => by cases e; exact Nat.le_refl _)).grown s3.2 (by omega) (fun j e => by cases e; exact Nat.le_refl _)).grown s4.2 (by omega) (fun j e => by cases e; exact Nat.le_refl _)).grown s5.2 (by omega) (fun j e => by cases e; exact Nat.le_refl _))
      go_roundw
      case rel =>
        refine ⟨j0 + 1, by omega, by go_num, ⟨rw0.set j0 (⟨[.string ⟨et.toArray⟩, .string ⟨ec.toArray⟩, .string ⟨ek.toArray⟩, .bool ep, .slice a_uu egs.length c_uu, .slice a_uv evs.length c_uv], rfl⟩ : Nst.Row 6), by rw [List.length_set]; exact HRL.out, by rw [← hE.out]; exact s5.1, fun j hj => ?_⟩, hbb⟩
        by_cases hje : j = j0
        · subst hje
          have HQ : RDO w' (w.heap.size + 1) (Nst.Row.l (⟨[.string ⟨et.toArray⟩, .string ⟨ec.toArray⟩, .string ⟨ek.toArray⟩, .bool ep, .slice a_uu egs.length c_uu, .slice a_uv evs.length c_uv], rfl⟩ : Nst.Row 6)) (l.getD j nov) := by rw [HF.out]; exact ⟨_, _, rfl, HN_uu.out, HN_uv.out⟩
          rw [Nst.get_same (by rw [HRL.out]; exact hlt)]
          exact (rdo_set (rdo_set (rdo_set (rdo_set (rdo_set (rdo_set HQ (Nat.lt_succ_self _) (j * 6) (.string ⟨et.toArray⟩)) (Nat.lt_succ_self _) (j * 6 + 1) (.string ⟨ec.toArray⟩)) (Nat.lt_succ_self _) (j * 6 + 2) (.string ⟨ek.toArray⟩)) (Nat.lt_succ_self _) (j * 6 + 3) (.bool ep)) (Nat.lt_succ_self _) (j * 6 + 4) (.slice a_uu egs.length c_uu)) (Nat.lt_succ_self _) (j * 6 + 5) (.slice a_uv evs.length c_uv))
        · have HQ := HDD.out j (by omega)
          rw [Nst.get_ne hje]
          exact (rdo_set (rdo_set (rdo_set (rdo_set (rdo_set (rdo_set HQ (Nat.lt_succ_self _) (j0 * 6) (.string ⟨et.toArray⟩)) (Nat.lt_succ_self _) (j0 * 6 + 1) (.string ⟨ec.toArray⟩)) (Nat.lt_succ_self _) (j0 * 6 + 2) (.string ⟨ek.toArray⟩)) (Nat.lt_succ_self _) (j0 * 6 + 3) (.bool ep)) (Nat.lt_succ_self _) (j0 * 6 + 4) (.slice a_uu egs.length c_uu)) (Nat.lt_succ_self _) (j0 * 6 + 5) (.slice a_uv evs.length c_uv))
      case measure => simp [intOf]; omega
    · obtain rfl : j0 = l.length := by omega
      go_wp2
      go_ret
      exact ⟨_, rfl, ⟨rw0, hrl, hown, fun j hj => rdo_mono (hold j hj) (Nat.le_succ _)⟩, hb⟩

theorem copy (v : Value) (B : Nat) (l : List T) (w : World) (h : Holds w B v l) (hB : B ≤ w.heap.size) (hl : l.length ≤ 1048576) (ht : ∀ f ∈ l, f.egs.length ≤ 1048576 ∧ f.evs.length ≤ 1048576) :
    Calls Tryz.prog 72 #[v] w (Copied l w) := by
  rcases Nst.holds_cases h with ⟨rfl, a, cap, rfl⟩ | ⟨hp, b, off, cap, rfl, hb, _, rows, h1, h2, h4⟩
  · exact copy_nil a cap w
  · exact copy_some b off cap B l rows w h2 h1 hb hB h4 hp hl ht
end Go.Proofs.YtndbhjgfaghelaaGreatDoor.Rsl

/-
  CONTRACTS of the laws' helpers for a Origin (written by stk.py): an argument of that type, opened; its size, the comparison of two that hold the same. Nothing that was there before is changed.
-/
namespace Go.Proofs.YtndbhjgfaghelaaGreatDoor.Org
open Go Go.RowKit
set_option linter.unusedVariables false
set_option maxRecDepth 1000000
set_option maxRecDepth 1000000

def Ok (h : List UInt8) (l : List Rsl.T) : Prop := h.length ≤ maxLen ∧ (l.length ≤ maxLen ∧ ∀ f ∈ l, Rsl.Ok1 f)
def tot (h : List UInt8) (l : List Rsl.T) : Nat := h.length + Rsl.total l
/-- An argument of type laws.Origin, opened. -/
theorem open_org {H : Type} {enc : TypeId × Value → H} {W : World} {base : Nat} {v : Value} {d : DataW H} {p : List MemPlace}
    (hok : Value.okWide Tryz.prog W .any base 58 v) (h : DataW.Trod enc Tryz.prog W 0 (fun _ => true) true 58 v d p) :
    ∃ (h : List UInt8) (u : Value) (l : List Rsl.T), v = .agg #[.string ⟨h.toArray⟩, u] ∧ Rsl.Holds W W.heap.size u l ∧ Ok h l := by
  obtain ⟨cs', rfl, hsz⟩ := WideShapes.okWide_struct Tryz.underlying58 hok
  obtain ⟨fuel, hf⟩ := h
  have cels : Tryz.prog.cellsOf 9 = 1 := by kernel_rfl
  have celResource : Tryz.prog.cellsOf 56 = 1 := by kernel_rfl
  have ce : Tryz.prog.cellsOf 58 = 2 := by kernel_rfl
  obtain ⟨l⟩ := cs'
  obtain ⟨xs, kk, hk, hxy, _, hxl, hg⟩ := DataW.trod_struct Tryz.underlying58 hf
  match l, hsz.trans ce, xs, hxl with
  | [v0, v1], _, [y0, y1], _ =>
    have g0 := hg 0 _ rfl
    have g1 := hg 1 _ rfl
    simp [Value.cells, cels, celResource] at g0 g1
    obtain ⟨i0, rfl, o0⟩ := Msg.open_text g0
    obtain ⟨u1, l1, hu1, e1, o1, p1⟩ := Rsl.open_cells g1
    obtain rfl : v1 = u1 := by simpa using hu1
    exact ⟨i0, v1, l1, by simp, e1, o0, ⟨o1, p1⟩⟩

set_option maxHeartbeats 2000000 in
/-- Its size: not below 0 just where it is at most what is left. -/
theorem size_org (h : List UInt8) (u : Value) (l : List Rsl.T) (left : Int) (B : Nat) (w : World) (hu : Rsl.Holds w B u l) (hB : B ≤ w.heap.size) (hok : Ok h l) (h0 : 0 ≤ left) (h3 : left ≤ 1048576) :
    Calls Tryz.prog 32 #[.agg #[.string ⟨h.toArray⟩, u], .int .i64 left] w fun e w' => ∃ z : Int, e = .returned (.int .i64 z) ∧ (z < 0 ∨ (0 ≤ z ∧ z + ((tot h l : Nat) : Int) = left)) ∧ Below w.heap.size w w' := by
  have HB0 := Lib.hid ((Below.refl w.heap.size w).alloc (Nat.le_refl _) (.cells #[.string ⟨h.toArray⟩, u] 58))
  have HBX := Lib.hid (fun W (hb : Below (w.alloc (.cells #[.string ⟨h.toArray⟩, u] 58)).heap.size (w.alloc (.cells #[.string ⟨h.toArray⟩, u] 58)) W) => (Kept.Box.new (w := w) (T := 58) (a := #[.string ⟨h.toArray⟩, u])).below hb)
  obtain ⟨okh, oku⟩ := hok
  have HTOT : Hid (tot h l = h.length + Rsl.total l) := Lib.hid rfl
  have HS0 := Lib.hid (fun (z : Int) (hz0 : 0 ≤ z) (hz3 : z ≤ 1048576) W (hb : Below w.heap.size w W) => Rsl.size_any u B l z W (Rsl.holds_below hu (hb.mono hB)) (Nat.le_trans hB hb.size) oku.1 oku.2 hz0 hz3)
  have hs_h : (⟨h.toArray⟩ : ByteArray).size = h.length := by simp [ByteArray.size]
  unfold maxLen at okh
  clear hu oku
  by_cases q_h : left - (h.length : Int) < 0
  · go_enter Tryz.func32, Tryz.ntmps32
    go_wp2
    go_ret
    exact ⟨_, rfl, Or.inl (by omega), HB0.out⟩
  go_enter Tryz.func32, Tryz.ntmps32
  have HC0 := Lib.hid (HS0.out (left - (h.length : Int)) (by omega) (by omega) _ HB0.out)
  go_wp2_with (fail)
  go_at_call 68
  refine HC0.out.mono ?_
  rintro e w1 ⟨z1, rfl, hz1, hb1⟩
  have HR1 := Lib.hid hb1
  have HB1 := Lib.hid (HB0.out.trans (hb1.mono HB0.out.size))
  clear hb1
  rcases hz1 with hz1 | ⟨hz10, hz11⟩
  · go_wp2
    go_ret
    exact ⟨_, rfl, Or.inl (by omega), HB1.out⟩
  have hzn1 : ¬ z1 < 0 := by omega
  have HT1 := Lib.hid hz11
  clear hz11
  go_wp2
  go_ret
  exact ⟨_, rfl, Or.inr ⟨by omega, by have := HT1.out; have := HTOT.out; omega⟩, HB1.out⟩

set_option maxHeartbeats 2000000 in
theorem eq_org (h : List UInt8) (u : Value) (l : List Rsl.T) (u' : Value) (B B' : Nat) (w : World) (hu : Rsl.Holds w B u l) (hB : B ≤ w.heap.size) (hu' : Rsl.Holds w B' u' l) (hB' : B' ≤ w.heap.size) (qu : (l.length ≤ 1048576 ∧ ∀ f ∈ l, f.egs.length ≤ 1048576 ∧ f.evs.length ≤ 1048576)) :
    Calls Tryz.prog 36 #[.agg #[.string ⟨h.toArray⟩, u], .agg #[.string ⟨h.toArray⟩, u']] w (Rec.Yes w) := by
  have HB0 := Lib.hid (((Below.refl w.heap.size w).alloc (Nat.le_refl _) (.cells #[.string ⟨h.toArray⟩, u] 63)).alloc (by simp) (.cells #[.string ⟨h.toArray⟩, u'] 63))
  have HBX := Lib.hid (fun W (hb : Below ((w.alloc (.cells #[.string ⟨h.toArray⟩, u] 63)).alloc (.cells #[.string ⟨h.toArray⟩, u'] 63)).heap.size ((w.alloc (.cells #[.string ⟨h.toArray⟩, u] 63)).alloc (.cells #[.string ⟨h.toArray⟩, u'] 63)) W) => ((Kept.Box.new (w := w) (T := 63) (a := #[.string ⟨h.toArray⟩, u])).alloc (.cells #[.string ⟨h.toArray⟩, u'] 63)).below hb)
  have HBY := Lib.hid (fun W (hb : Below ((w.alloc (.cells #[.string ⟨h.toArray⟩, u] 63)).alloc (.cells #[.string ⟨h.toArray⟩, u'] 63)).heap.size ((w.alloc (.cells #[.string ⟨h.toArray⟩, u] 63)).alloc (.cells #[.string ⟨h.toArray⟩, u'] 63)) W) => (Kept.Box.new (w := (w.alloc (.cells #[.string ⟨h.toArray⟩, u] 63))) (T := 63) (a := #[.string ⟨h.toArray⟩, u'])).below hb)
  rw [show (w.alloc (.cells #[.string ⟨h.toArray⟩, u] 63)).heap.size = w.heap.size + 1 by simp] at HBY
  have HS0 := Lib.hid (fun W (hb : Below w.heap.size w W) => Rsl.eq_same u u' B B' l W (Rsl.holds_below hu (hb.mono hB)) (Nat.le_trans hB hb.size) (Rsl.holds_below hu' (hb.mono hB')) (Nat.le_trans hB' hb.size) qu.1 qu.2)
  unfold Rec.Yes at HS0
  unfold Rec.Yes
  clear hu hu'
  go_enter Tryz.func36, Tryz.ntmps36
  go_wp2_with (fail)
  go_at_call 76
  refine (HS0.out _ HB0.out).mono ?_
  rintro e w1 ⟨rfl, hb1⟩
  have HR1 := Lib.hid hb1
  have HB1 := Lib.hid (HB0.out.trans (hb1.mono HB0.out.size))
  clear hb1
  go_wp2
  go_ret
  exact ⟨rfl, HB1.out⟩
end Go.Proofs.YtndbhjgfaghelaaGreatDoor.Org

/-
  CONTRACTS of FindResource, the model's and the program's, with slices.IndexFunc at the closure of the target; nothing that was there before is changed.
-/
namespace Go.Proofs.YtndbhjgfaghelaaGreatDoor.Org
open Go Go.RowKit
set_option linter.unusedVariables false
set_option maxRecDepth 1000000
set_option maxRecDepth 1000000

/-- The place of the first page with this target. -/
def fix (t : List UInt8) (l : List Rsl.T) : Nat := l.findIdx (fun e => e.et == t)
def frs (t : List UInt8) (l : List Rsl.T) : Int := if fix t l < l.length then (fix t l : Int) else -1
theorem fix_hit {n : List UInt8} {l : List Rsl.T} {k : Nat} (hk : k ≤ fix n l) (h : k < l.length) (e : (l.getD k Rsl.nov).et = n) : frs n l = (k : Int) := by
  have hg : l.getD k Rsl.nov = l[k] := by simp [List.getD, h]
  have h1 : fix n l ≤ k := by
    rcases Nat.lt_or_ge k (fix n l) with hlt | hge
    · have := List.not_of_lt_findIdx (p := fun d : Rsl.T => d.et == n) (xs := l) hlt
      rw [hg] at e
      simp [e] at this
    · exact hge
  have : fix n l = k := by omega
  unfold frs; rw [this, if_pos h]
theorem fix_miss {n : List UInt8} {l : List Rsl.T} {k : Nat} (hk : k ≤ fix n l) (h : k < l.length) (e : (l.getD k Rsl.nov).et ≠ n) : k + 1 ≤ fix n l := by
  have hg : l.getD k Rsl.nov = l[k] := by simp [List.getD, h]
  rcases Nat.lt_or_ge k (fix n l) with hlt | hge
  · exact hlt
  · have hkk : fix n l = k := by omega
    exfalso
    apply e
    rw [hg]
    have h2 : fix n l < l.length := by omega
    have := List.findIdx_getElem (p := fun d : Rsl.T => d.et == n) (xs := l) (w := h2)
    have e3 : l[List.findIdx (fun d : Rsl.T => d.et == n) l]'h2 = l[k] := by congr 1
    rw [e3] at this
    simpa using this
theorem fix_end {n : List UInt8} {l : List Rsl.T} {k : Nat} (hk : k ≤ fix n l) (h : ¬ k < l.length) : frs n l = -1 := by
  unfold frs; rw [if_neg (by omega)]
theorem sl_s {w : World} {B : Nat} {v : Value} {l : List (List UInt8)} (h : Strs.Holds w B v l) : ∃ a n c, v = .slice a n c := by
  rcases h with ⟨_, a, cap, rfl⟩ | ⟨_, b, off, cap, rfl, _⟩ <;> exact ⟨_, _, _, rfl⟩
theorem sl_v {w : World} {B : Nat} {v : Value} {l : List Ver.T} (h : Ver.Holds w B v l) : ∃ a n c, v = .slice a n c := by
  rcases h with ⟨_, a, cap, rfl⟩ | ⟨_, b, off, cap, rfl, _⟩ <;> exact ⟨_, _, _, rfl⟩
def NumEnd (n : Int) (w : World) (e : Ending) (w' : World) : Prop := e = .returned (.int .i64 n) ∧ Below w.heap.size w w'
theorem ret_int {a b : Int} (h : a = b) : Ending.returned (.int .i64 a) = .returned (.int .i64 b) := by rw [h]
def Enters (K : FuncId) : Prop := ∀ (args : Array Value) (w : World), Sem.run Tryz.prog (callFunc K args) w = .ok (.enter K args) w

set_option maxHeartbeats 4000000 in
theorem spec_frs (h : List UInt8) (u : Value) (B : Nat) (l : List Rsl.T) (n : List UInt8) (w : World) (hu : Rsl.Holds w B u l) (hB : B ≤ w.heap.size) (hl : l.length ≤ 1048576) :
    Calls Tryz.prog 70 #[.agg #[.string ⟨h.toArray⟩, u], .string ⟨n.toArray⟩] w (NumEnd (frs n l) w) := by
  rcases Nst.holds_cases hu with ⟨rfl, a, cap, rfl⟩ | ⟨hp, b, off, cap, rfl, hbB, _, rows, h1, h2, h4⟩
  · have HB0 := Lib.hid ((Below.refl w.heap.size w).alloc (Nat.le_refl _) (.cells #[.string ⟨h.toArray⟩, .slice a 0 cap] 63))
    go_enter Tryz.func70, Tryz.ntmps70
    go_wp2
    go_loop [5] (fun i => i = .int .i64 0) (fun i => 0)
    case atStart => rfl
    case round =>
      obtain rfl := hrel
      go_wp2
      go_ret
      exact ⟨rfl, HB0.out⟩
  · have HB0 := Lib.hid ((Below.refl w.heap.size w).alloc (Nat.le_refl _) (.cells #[.string ⟨h.toArray⟩, .slice (some ⟨b, off, none⟩) l.length cap] 63))
    have HBX := Lib.hid (fun W (hb : Below (w.alloc (.cells #[.string ⟨h.toArray⟩, .slice (some ⟨b, off, none⟩) l.length cap] 63)).heap.size (w.alloc (.cells #[.string ⟨h.toArray⟩, .slice (some ⟨b, off, none⟩) l.length cap] 63)) W) => (Kept.Box.new (w := w) (T := 63) (a := #[.string ⟨h.toArray⟩, .slice (some ⟨b, off, none⟩) l.length cap])).below hb)
    have HC := Lib.hid h2
    have HRW := Lib.hid h4
    have HLN := Lib.hid h1
    clear hu h1 h2 h4
    go_enter Tryz.func70, Tryz.ntmps70
    go_wp2
    go_loopw [5] (fun i wr => ∃ k : Nat, k ≤ l.length ∧ i = .int .i64 (k : Int) ∧ Hid (k ≤ fix n l) ∧ Below (w.alloc (.cells #[.string ⟨h.toArray⟩, .slice (some ⟨b, off, none⟩) l.length cap] 63)).heap.size (w.alloc (.cells #[.string ⟨h.toArray⟩, .slice (some ⟨b, off, none⟩) l.length cap] 63)) wr) (fun i _ => l.length - (intOf i).toNat)
    case atStart => exact ⟨0, Nat.zero_le _, rfl, Lib.hid (Nat.zero_le _), Below.refl _ _⟩
    case round =>
      obtain ⟨k, hk, rfl, HF, hb⟩ := hrel
      have x1 := (HBX.out _ hb).cell 1 _ rfl
      have hbw : Below w.heap.size w wr := HB0.out.trans (hb.mono HB0.out.size)
      have HBW := Lib.hid hbw
      have HBR := Lib.hid hb
      by_cases hlt : k < l.length
      · have hA := Rec.at_below HC.out (hbw.mono (by omega)) hbB
        have hrk := Rsl.rd_below (hbw.mono hB) (HRW.out k hlt)
        have hki : (k : Int) < (l.length : Int) := by omega
        by_cases e : (l.getD k Rsl.nov).et = n
        · have HE := Lib.hid (fix_hit HF.out hlt e)
          obtain ⟨uu, uv, hcs, huu, huv⟩ := hrk
          rw [e] at hcs
          have cc0 : wr.cell? ⟨b, off + k * 6, none⟩ = some (.string ⟨n.toArray⟩) := Nst.at_cell (i := 0) hA (by rw [HLN.out]; exact hlt) hcs rfl
          clear hb hbw hA hcs huu huv e
          go_wp2
          go_ret
          exact ⟨(ret_int HE.out).symm, HBW.out⟩
        · have HM := Lib.hid (fix_miss HF.out hlt e)
          obtain ⟨uu, uv, hcs, huu, huv⟩ := hrk
          generalize (l.getD k Rsl.nov).et = x at hcs e
          have hq : (x == n) = false := by simpa using e
          have cc0 : wr.cell? ⟨b, off + k * 6, none⟩ = some (.string ⟨x.toArray⟩) := Nst.at_cell (i := 0) hA (by rw [HLN.out]; exact hlt) hcs rfl
          clear hb hbw hA hcs huu huv e
          go_wp2
          go_roundw
          case rel => exact ⟨k + 1, by omega, by go_num, HM, HBR.out⟩
          case measure => simp [intOf]; omega
      · have HE := Lib.hid (fix_end HF.out hlt)
        clear hb hbw
        go_wp2
        go_ret
        exact ⟨(ret_int HE.out).symm, HBW.out⟩

end Go.Proofs.YtndbhjgfaghelaaGreatDoor.Org

/-
  PLAIN FACTS on the parts of a request: methods, hosts, targets.
-/
namespace Go.Proofs.YtndbhjgfaghelaaGreatDoor.Msg
open Go
set_option linter.unusedVariables false
set_option maxRecDepth 1000000

def nolow (c : UInt8) : Bool := !decide (97 ≤ c.toNat ∧ c.toNat ≤ 122)
def methOk (m : List UInt8) : Bool := m.all nolow && Tx.token m
def hbs : List UInt8 := [97, 98, 99, 100, 101, 102, 103, 104, 105, 106, 107, 108, 109, 110, 111, 112, 113, 114, 115, 116, 117, 118, 119, 120, 121, 122, 48, 49, 50, 51, 52, 53, 54, 55, 56, 57, 45, 46]
def hb (c : UInt8) : Bool := decide (97 ≤ c.toNat ∧ c.toNat ≤ 122) || (decide (48 ≤ c.toNat ∧ c.toNat ≤ 57) || (c == 45 || c == 46))
def hostOk (h : List UInt8) : Bool := h.all hb && decide (1 ≤ h.length ∧ h.length ≤ 40)
def tb (c : UInt8) : Bool := decide (33 ≤ c.toNat ∧ c.toNat ≤ 126)
def targOk (t : List UInt8) : Bool := t.all tb && (decide (1 ≤ t.length ∧ t.length ≤ 100) && t.head? == some 47)
theorem hb_set : ∀ c : UInt8, hbs.contains c = hb c := by
  have h : ∀ n : Fin 256, hbs.contains (UInt8.ofNat n.1) = hb (UInt8.ofNat n.1) := by decide +kernel
  intro c
  have := h ⟨c.toNat, c.toNat_lt⟩
  simpa using this
/-- Trimmed to nothing: every byte is of the set. -/
theorem trim_all (l : List UInt8) (p : UInt8 → Bool) (st : List UInt8) (hp : ∀ c, st.contains c = p c) : Lib.trimS l st = [] ↔ l.all p = true := by
  unfold Lib.trimS Lib.trimLeftS Lib.trimRightS
  have hf : (fun b : UInt8 => st.contains b) = p := funext hp
  rw [show (fun x : UInt8 => st.contains x) = p from hf]
  rw [List.all_eq_true]
  have key : ∀ m : List UInt8, m.dropWhile p = [] ↔ ∀ x ∈ m, p x = true := by
    intro m
    induction m with
    | nil => simp
    | cons a r ih =>
      by_cases h : p a = true
      · rw [List.dropWhile_cons_of_pos h, ih]; simp [h]
      · rw [List.dropWhile_cons_of_neg h]; simp [h]
  constructor
  · intro h
    have h1 := (key _).1 h
    -- what is left behind the first trimming is all of the set; so is what was taken away
    intro x hx
    by_cases hp2 : p x = true
    · exact hp2
    · exfalso
      have h2 : l.reverse.dropWhile p ≠ [] := fun e => hp2 ((key _).1 e x (by simpa using hx))
      have h3 : ∀ y ∈ l.reverse.dropWhile p, p y = true := fun y hy => h1 y (by simpa using hy)
      cases hd : l.reverse.dropWhile p with
      | nil => exact h2 hd
      | cons a r =>
        have : p a = false := by
          have := List.head?_dropWhile_not p l.reverse
          rw [hd] at this; simpa using this
        rw [hd] at h3
        have := h3 a (by simp)
        simp_all
  · intro h
    have h1 : l.reverse.dropWhile p = [] := (key _).2 (fun x hx => h x (by simpa using hx))
    rw [h1]; rfl
theorem trim_hb (l : List UInt8) : Lib.trimS l hbs = [] ↔ l.all hb = true := trim_all l hb hbs hb_set
/-- A token is of ASCII bytes. -/
theorem token_ascii {m : List UInt8} (h : Tx.token m = true) : ∀ (j : Nat) (b : UInt8), m[j]? = some b → b.toNat < 128 := by
  intro j b hb
  unfold Tx.token at h
  rw [Bool.and_eq_true, List.all_eq_true] at h
  have h1 := h.1 b (List.mem_of_getElem? hb)
  unfold Tx.tokc Tx.letc at h1
  rw [Bool.or_eq_true] at h1
  rcases h1 with h1 | h1
  · have hm : b ∈ Tx.marks := by simpa using h1
    have hall : ∀ x ∈ Tx.marks, x.toNat < 128 := by decide
    exact hall b hm
  · simp at h1; omega
theorem upper_same (m : List UInt8) : Lib.toUpperA m = m ↔ m.all nolow = true := by
  unfold Lib.toUpperA
  rw [List.all_eq_true]
  have one : ∀ c : UInt8, Lib.upperB c = c ↔ nolow c = true := by
    have h : ∀ n : Fin 256, Lib.upperB (UInt8.ofNat n.1) = UInt8.ofNat n.1 ↔ nolow (UInt8.ofNat n.1) = true := by decide +kernel
    intro c
    have := h ⟨c.toNat, c.toNat_lt⟩
    simpa using this
  constructor
  · intro h c hc
    obtain ⟨j, hj, rfl⟩ := List.getElem_of_mem hc
    have := congrArg (fun z : List UInt8 => z[j]?) h
    simp [hj] at this
    exact (one _).1 this
  · intro h
    conv => rhs; rw [← List.map_id m]
    apply List.map_congr_left
    intro c hc
    exact (one c).2 (h c hc)
theorem up_len (m : List UInt8) : (Lib.toUpperA m).length = m.length := by unfold Lib.toUpperA; simp
/-- One byte more, one byte that is not of them, and all of them. -/
theorem all_more {p : UInt8 → Bool} {s : ByteArray} {k : Nat} (h : k < s.size) (ha : (s.data.toList.take k).all p = true) (hc : p s[k] = true) : (s.data.toList.take (k + 1)).all p = true := by
  rw [Tx.take_snoc s k h, List.all_append, ha, List.all_cons, hc]; rfl
theorem all_bad {p : UInt8 → Bool} {s : ByteArray} {k : Nat} (h : k < s.size) (hc : p s[k] = false) : s.data.toList.all p = false := by
  rw [Bool.eq_false_iff]
  intro ha
  have hm : s[k] ∈ s.data.toList := by
    rw [← List.take_append_drop k s.data.toList, Tx.drop_cons s k h]; simp
  rw [List.all_eq_true] at ha
  have := ha _ hm
  rw [hc] at this; cases this
theorem all_end {p : UInt8 → Bool} {s : ByteArray} {k : Nat} (h : k = s.size) (ha : (s.data.toList.take k).all p = true) : s.data.toList.all p = true := by
  rwa [List.take_of_length_le (by rw [Tx.list_len]; omega)] at ha
theorem nolow_no {c : UInt8} (h : nolow c = false) : 97 ≤ (c.toNat : Int) ∧ (c.toNat : Int) ≤ 122 := by unfold nolow at h; simp at h; omega
theorem nolow_yes {c : UInt8} (h : nolow c = true) : (c.toNat : Int) < 97 ∨ 122 < (c.toNat : Int) := by unfold nolow at h; simp at h; omega
theorem tb_no {c : UInt8} (h : tb c = false) : (c.toNat : Int) < 33 ∨ 126 < (c.toNat : Int) := by unfold tb at h; simp at h; omega
theorem tb_yes {c : UInt8} (h : tb c = true) : 33 ≤ (c.toNat : Int) ∧ (c.toNat : Int) ≤ 126 := by unfold tb at h; simp at h; omega
theorem b45 (c : UInt8) : ((c.toNat : Int) == 45) = (c == 45) := Tx.eq_nat (n := 45) (by omega)
theorem b46 (c : UInt8) : ((c.toNat : Int) == 46) = (c == 46) := Tx.eq_nat (n := 46) (by omega)
theorem hb_cases (c : UInt8) : (hb c = true ∧ (97 ≤ (c.toNat : Int) ∧ (c.toNat : Int) ≤ 122)) ∨
    (hb c = true ∧ ((c.toNat : Int) < 97 ∨ 122 < (c.toNat : Int)) ∧ (48 ≤ (c.toNat : Int) ∧ (c.toNat : Int) ≤ 57)) ∨
    (hb c = true ∧ ((c.toNat : Int) < 97 ∨ 122 < (c.toNat : Int)) ∧ ((c.toNat : Int) < 48 ∨ 57 < (c.toNat : Int)) ∧ ((c.toNat : Int) == 45) = true) ∨
    (hb c = true ∧ ((c.toNat : Int) < 97 ∨ 122 < (c.toNat : Int)) ∧ ((c.toNat : Int) < 48 ∨ 57 < (c.toNat : Int)) ∧ ((c.toNat : Int) == 45) = false ∧ ((c.toNat : Int) == 46) = true) ∨
    (hb c = false ∧ ((c.toNat : Int) < 97 ∨ 122 < (c.toNat : Int)) ∧ ((c.toNat : Int) < 48 ∨ 57 < (c.toNat : Int)) ∧ ((c.toNat : Int) == 45) = false ∧ ((c.toNat : Int) == 46) = false) := by
  by_cases h1 : 97 ≤ c.toNat ∧ c.toNat ≤ 122
  · left; exact ⟨by unfold hb; simp [h1], by omega⟩
  by_cases h2 : 48 ≤ c.toNat ∧ c.toNat ≤ 57
  · right; left; exact ⟨by unfold hb; simp [h2], by omega, by omega⟩
  rw [b45, b46]
  cases h3 : c == 45
  · cases h4 : c == 46
    · right; right; right; right
      exact ⟨by unfold hb; rw [h3, h4, decide_eq_false h1, decide_eq_false h2]; rfl, by omega, by omega, rfl, rfl⟩
    · right; right; right; left
      exact ⟨by unfold hb; rw [h4]; simp, by omega, by omega, rfl, rfl⟩
  · right; right; left
    exact ⟨by unfold hb; rw [h3]; simp, by omega, by omega, rfl⟩
end Go.Proofs.YtndbhjgfaghelaaGreatDoor.Msg
