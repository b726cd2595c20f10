/-
  CONTRACTS AND PLAIN FACTS, several texts in one; each says in its own words what it proves.
-/
import Derived.Test.YtidmppphlcfpjaaGreatDoorPqA
import Derived.Test.YtidmppphlcfpjaaGreatDoorPqL
import Derived.Test.YtidmppphlcfpjaaGreatDoorPqN
import Derived.Test.YtidmppphlcfpjaaGreatDoorPqC
import Derived.Test.YtidmppphlcfpjaaGreatDoorPqB
import Derived.LoopTactic
import Derived.Outline
import Derived.Test.YtidmppphlcfpjaaGreatDoorPqH
set_option linter.unusedSimpArgs false
set_option linter.unusedVariables false

/-
  CONTRACTS of both sides' RuleFor; nothing that was there before is changed.
-/
namespace Go.Proofs.YtidmppphlcfpjaaGreatDoor.Rul
open Go Go.RowKit
set_option linter.unusedVariables false
set_option maxRecDepth 1000000
set_option maxRecDepth 1000000

def better (t : List UInt8) (b f : T) : Bool := decide (b.2.1.length < f.2.1.length) && f.2.1.isPrefixOf t
def rfold (t : List UInt8) (l : List T) (k : Nat) : T := (l.take k).foldl (fun b f => if better t b f = true then f else b) nov
theorem rf_zero (t : List UInt8) (l : List T) : rfold t l 0 = nov := by unfold rfold; rfl
theorem rf_more {t : List UInt8} {l : List T} {k : Nat} (h : k < l.length) : rfold t l (k + 1) = if better t (rfold t l k) (l.getD k nov) = true then l.getD k nov else rfold t l k := by
  unfold rfold
  rw [List.take_succ_eq_append_getElem h, List.foldl_append, show l.getD k nov = l[k] by simp [List.getD, h]]
  rfl
theorem rf_yes {t : List UInt8} {l : List T} {k : Nat} (h : k < l.length) (hb : better t (rfold t l k) (l.getD k nov) = true) : rfold t l (k + 1) = l.getD k nov := by rw [rf_more h, if_pos hb]
theorem rf_no {t : List UInt8} {l : List T} {k : Nat} (h : k < l.length) (hb : better t (rfold t l k) (l.getD k nov) = false) : rfold t l (k + 1) = rfold t l k := by rw [rf_more h, if_neg (by rw [hb]; decide)]
theorem rf_nil (l : List T) : ∀ k, rfold [] l k = nov := by
  intro k
  unfold rfold
  induction l.take k with
  | nil => rfl
  | cons f r ih =>
    rw [List.foldl_cons]
    have : better [] nov f = false := by
      unfold better
      cases hf : f.2.1 with
      | nil => rfl
      | cons a b => rw [Bool.and_eq_false_iff]; exact Or.inr rfl
    rw [if_neg (by rw [this]; decide)]; exact ih
def rfor (l : List T) (t : List UInt8) : T := rfold (Nt.ntar t).1 l l.length
theorem rf_all {t : List UInt8} {l : List T} {k : Nat} (h : ¬ k < l.length) : rfold t l k = rfold t l l.length := by
  unfold rfold; rw [List.take_of_length_le (by omega), List.take_of_length_le (Nat.le_refl _)]
theorem ntar_no {t : List UInt8} (h : (Nt.ntar t).2 = false) : (Nt.ntar t).1 = [] := by
  unfold Nt.ntar at h ⊢
  split
  · rename_i hh; rw [if_pos hh] at h; cases h
  · rfl
theorem ntar_len2 (l : List UInt8) : (Nt.ntar l).1.length ≤ 2 * l.length + 4 := by
  have h1 := Nt.cut_len 63 l
  have h2 := Nt.normp_len (Tx.cutAt 63 l).1
  have h3 := Nt.normp_len (Tx.cutAt 63 l).2.1
  have h4 := Nt.pathd_len (Nt.normp (Tx.cutAt 63 l).1).1
  have h5 := Nt.query_len (Nt.normp (Tx.cutAt 63 l).2.1).1
  unfold Nt.ntar
  split
  · simp only
    split
    · omega
    · simp only [List.length_append, List.length_cons, List.length_nil]; omega
  · simp
theorem pre_take (p t : List UInt8) : p.isPrefixOf t = (t.take p.length == p) := by
  rw [Bool.eq_iff_iff, List.isPrefixOf_iff_prefix, List.prefix_iff_eq_take, beq_iff_eq]
  exact ⟨fun h => h.symm, fun h => h.symm⟩
theorem pre_long {p t : List UInt8} (h : t.length < p.length) : p.isPrefixOf t = false := by
  rw [pre_take, beq_eq_false_iff_ne]; intro e
  have := congrArg List.length e; rw [List.length_take] at this; omega
def GrowS (w wr w' : World) : Prop := Below wr.heap.size wr w' ∧ Below w.heap.size w w'
theorem grow_start {w wr : World} (hb : Below w.heap.size w wr) : GrowS w wr wr.drew := ⟨Rec.below_drew (Below.refl _ _), Rec.below_drew hb⟩
theorem grow_old {w wr w' : World} (h : GrowS w wr w') {b o : Nat} {u : Value} (hc : wr.cell? ⟨b, o, none⟩ = some u) : w'.cell? ⟨b, o, none⟩ = some u := by
  rw [h.1.cell (p := ⟨b, o, none⟩) (Rec.lt_of_cell hc)]; exact hc
def bx (f : T) : List Value := [.int .i64 f.1, .string ⟨f.2.1.toArray⟩, .int .i64 f.2.2]
def RfEnd (f : T) (w : World) (e : Ending) (w' : World) : Prop := e = .returned (.agg #[.int .i64 f.1, .string ⟨f.2.1.toArray⟩, .int .i64 f.2.2]) ∧ Below w.heap.size w w'
theorem shape_f {w : World} {B : Nat} {v : Value} {l : List T} (h : Holds w B v l) : ∃ a cap, v = .slice a l.length cap ∧ (0 < l.length → ∃ b off, a = some ⟨b, off, none⟩ ∧ b < B ∧ l.length ≤ cap ∧ At w b off l) := by
  rcases h with ⟨rfl, a, cap, rfl⟩ | ⟨h0, b, off, cap, rfl, hb, hcap, hc⟩
  · exact ⟨a, cap, rfl, fun h => by simp at h⟩
  · exact ⟨_, cap, rfl, fun _ => ⟨b, off, rfl, hb, hcap, hc⟩⟩
theorem Box3 {W : World} {g : Nat} {b f : T} (h : Kept.Box W g (bx b)) : Kept.Box (((W.setCell ⟨g, 0, none⟩ (.int .i64 f.1)).setCell ⟨g, 1, none⟩ (.string ⟨f.2.1.toArray⟩)).setCell ⟨g, 2, none⟩ (.int .i64 f.2.2)) g (bx f) :=
  ((h.same (k := 0) (show 0 < 3 by decide) (.int .i64 f.1)).same (k := 1) (show 1 < 3 by decide) (.string ⟨f.2.1.toArray⟩)).same (k := 2) (show 2 < 3 by decide) (.int .i64 f.2.2)
theorem Box3o {W : World} {g g' : Nat} {xs : List Value} {f : T} (h : Kept.Box W g xs) (hne : g' ≠ g) : Kept.Box (((W.setCell ⟨g', 0, none⟩ (.int .i64 f.1)).setCell ⟨g', 1, none⟩ (.string ⟨f.2.1.toArray⟩)).setCell ⟨g', 2, none⟩ (.int .i64 f.2.2)) g xs :=
  ((h.other (k := 0) hne (.int .i64 f.1)).other (k := 1) hne (.string ⟨f.2.1.toArray⟩)).other (k := 2) hne (.int .i64 f.2.2)


set_option maxHeartbeats 8000000 in
theorem impl_rf (v : Value) (B : Nat) (l : List T) (m h t : List UInt8) (u : Value) (w : World) (hv : Holds w B v l) (hB : B ≤ w.heap.size) (hl : total l ≤ 1048576) (ht : t.length ≤ 1048576) (he : Par.Errs w) (hmx : Sh.MxL w) :
    Calls Tryz.prog 51 #[v, .agg #[.string ⟨m.toArray⟩, .string ⟨h.toArray⟩, .string ⟨t.toArray⟩, u]] w (RfEnd (rfor l t) w) := by
  have hll : l.length ≤ 1048576 := Nat.le_trans (len_le_total l) hl
  have HT := Lib.hid hl
  obtain ⟨av, cv, rfl, ha⟩ := shape_f hv
  have HA := Lib.hid ha
  have HB0 : Hid (Below w.heap.size w ((w.alloc (.cells #[.string ⟨m.toArray⟩, .string ⟨h.toArray⟩, .string ⟨t.toArray⟩, u] 46)).alloc (.cells #[.int .i64 0, .string ⟨#[]⟩, .int .i64 0] 77))) := Lib.hid (((Below.refl _ _).alloc (Nat.le_refl _) _).alloc (by simp) _)
  have HX1 : Hid (Kept.Box ((w.alloc (.cells #[.string ⟨m.toArray⟩, .string ⟨h.toArray⟩, .string ⟨t.toArray⟩, u] 46)).alloc (.cells #[.int .i64 0, .string ⟨#[]⟩, .int .i64 0] 77)) (w.heap.size + 1) [.int .i64 0, .string ⟨#[]⟩, .int .i64 0]) := Lib.hid (by
    have h := Kept.Box.new (w := w.alloc (.cells #[.string ⟨m.toArray⟩, .string ⟨h.toArray⟩, .string ⟨t.toArray⟩, u] 46)) (T := 77) (a := #[.int .i64 0, .string ⟨#[]⟩, .int .i64 0])
    rw [World.size_alloc] at h; exact h)
  have HC := Lib.hid (fun (W : World) (hb : Below w.heap.size w W) => Nt.impl_nt t W (by omega) (Par.errs_below he hb) (Sh.mxl_below hmx hb))
  have HE : Hid (rfold (Nt.ntar t).1 l l.length = rfor l t) := Lib.hid rfl
  have HNO := Lib.hid (ntar_no (t := t))
  have HLN : Hid ((Nt.ntar t).1.length ≤ 8388608) := Lib.hid (Nat.le_trans (ntar_len2 t) (by omega))
  unfold Nt.PairEnd at HC
  unfold RfEnd
  generalize rfor l t = res at *
  generalize Nt.ntar t = np at *
  obtain ⟨r1, r2⟩ := np
  simp only at HC HE HNO HLN
  obtain ⟨s, hs⟩ : ∃ s : ByteArray, s = ⟨r1.toArray⟩ := ⟨_, rfl⟩
  have hsl : s.data.toList = r1 := by rw [hs]
  have hsz : s.size = r1.length := by rw [hs]; simp [ByteArray.size]
  rw [← hs] at HC
  have HSL := Lib.hid hsl
  have HSZ : Hid (s.size = r1.length) := Lib.hid hsz
  clear hs hsl hsz hv ha hl ht he hmx
  go_enter Tryz.func51, Tryz.ntmps51
  go_wp2_with (fail)
  go_at_call 83
  refine (HC.out _ HB0.out).mono ?_
  rintro e w1 ⟨rfl, b1⟩
  have HX1 := Lib.hid (HX1.out.below b1)
  have HB1 := Lib.hid (Base.then_below HB0.out b1)
  have hs1 := b1.size
  simp only [World.size_alloc] at hs1
  clear b1
  have HX1 := Lib.hid (HX1.out.alloc (.cells #[.int .i64 0, .string ⟨#[]⟩, .int .i64 0] 77))
  have HX2 : Hid (Kept.Box (w1.alloc (.cells #[.int .i64 0, .string ⟨#[]⟩, .int .i64 0] 77)) w1.heap.size (bx (rfold r1 l 0))) := Lib.hid (by rw [rf_zero]; exact Kept.Box.new)
  have HB2 := Lib.hid (HB1.out.alloc HB1.out.size (.cells #[.int .i64 0, .string ⟨#[]⟩, .int .i64 0] 77))
  have hg1 : w.heap.size + 1 < w1.heap.size := by omega
  go_wp2
  go_loopw [19] (fun i wr => ∃ k : Nat, k ≤ l.length ∧ i = .int .i64 (k : Int) ∧ Kept.Box wr w1.heap.size (bx (rfold r1 l k)) ∧ Kept.Box wr (w.heap.size + 1) [.int .i64 0, .string ⟨#[]⟩, .int .i64 0] ∧ Below w.heap.size w wr) (fun i _ => l.length - (intOf i).toNat)
  case atStart => exact ⟨0, Nat.zero_le _, rfl, HX2.out, HX1.out, HB2.out⟩
  case round =>
    clear HX1 HX2 HB2
    obtain ⟨k, hk, rfl, hx2, hx1, hb⟩ := hrel
    have HB := Lib.hid hb
    have HX2 := Lib.hid hx2
    have HX1 := Lib.hid hx1
    clear hx1 hx2
    by_cases hlt : k < l.length
    · obtain ⟨b, off, rfl, hbw, hcap, hc⟩ := HA.out (by omega)
      obtain ⟨c0, c1, c2⟩ := at_cells (at_below hc hb (Nat.lt_of_lt_of_le hbw hB)) hlt
      have HLE : Hid ((l.getD k nov).2.1.length ≤ 1048576) := Lib.hid (Nat.le_trans (mem_total (Rec.getD_mem hlt)) HT.out)
      have HYE := Lib.hid (fun h => rf_yes (t := r1) hlt h)
      have HNE := Lib.hid (fun h => rf_no (t := r1) hlt h)
      unfold better at HYE HNE
      clear hb hc
      generalize l.getD k nov = x at c0 c1 c2 HLE HYE HNE
      generalize rfold r1 l k = bk at HX2 HYE HNE ⊢
      obtain ⟨fx, p, fz⟩ := x
      obtain ⟨bx0, bp, bz⟩ := bk
      simp only at c0 c1 c2 HLE HYE HNE
      have hki : (k : Int) < (l.length : Int) := by omega
      have hps : (⟨p.toArray⟩ : ByteArray).size = p.length := by simp [ByteArray.size]
      have hbs : (⟨bp.toArray⟩ : ByteArray).size = bp.length := by simp [ByteArray.size]
      have b1' := HX2.out.cell 1 _ rfl
      simp only [bx] at b1'
      have HHP := Lib.hid (fun W => Tryz.strings_HasPrefix s ⟨p.toArray⟩ W)
      rw [show Lib.hasPrefix s.data.toList (⟨p.toArray⟩ : ByteArray).data.toList = p.isPrefixOf r1 by rw [HSL.out]; rfl] at HHP
      by_cases hlen : bp.length < p.length
      case neg =>
        have hli : ¬ (bp.length : Int) < (p.length : Int) := by omega
        have HEE := Lib.hid (HNE.out (by rw [decide_eq_false hlen]; rfl))
        clear HYE HNE HHP
        have HX2 := Lib.hid (HX2.out.alloc (.cells #[.int .i64 fx, .string ⟨p.toArray⟩, .int .i64 fz] 77))
        have HX1 := Lib.hid (HX1.out.alloc (.cells #[.int .i64 fx, .string ⟨p.toArray⟩, .int .i64 fz] 77))
        have HB := Lib.hid (HB.out.alloc HB.out.size (.cells #[.int .i64 fx, .string ⟨p.toArray⟩, .int .i64 fz] 77))
        have b1'' := HX2.out.cell 1 _ rfl
        simp only [bx] at b1''
        clear b1'
        go_wp2
        go_roundw
        case rel => exact ⟨k + 1, by omega, by go_num, by rw [HEE.out]; exact HX2.out, HX1.out, HB.out⟩
        case measure => simp [intOf]; omega
      have hli : (bp.length : Int) < (p.length : Int) := by omega
      cases hpre : p.isPrefixOf r1 with
      | false =>
        have HEE := Lib.hid (HNE.out (by rw [hpre]; simp))
        rw [hpre] at HHP
        clear HYE HNE hpre
        have HX2 := Lib.hid (HX2.out.alloc (.cells #[.int .i64 fx, .string ⟨p.toArray⟩, .int .i64 fz] 77))
        have HX1 := Lib.hid (HX1.out.alloc (.cells #[.int .i64 fx, .string ⟨p.toArray⟩, .int .i64 fz] 77))
        have HB := Lib.hid (HB.out.alloc HB.out.size (.cells #[.int .i64 fx, .string ⟨p.toArray⟩, .int .i64 fz] 77))
        have b1'' := HX2.out.cell 1 _ rfl
        simp only [bx] at b1''
        clear b1'
        go_wp2_with (fail)
        go_at_call 71
        refine (HHP.out _).mono ?_
        rintro e w2 ⟨rfl, rfl⟩
        go_wp2
        go_roundw
        case rel => exact ⟨k + 1, by omega, by go_num, by rw [HEE.out]; exact HX2.out, HX1.out, HB.out⟩
        case measure => simp [intOf]; omega
      | true =>
        have HEE := Lib.hid (HYE.out (by rw [hpre, decide_eq_true hlen]; rfl))
        rw [hpre] at HHP
        clear HYE HNE hpre
        have HX2 := Lib.hid (HX2.out.alloc (.cells #[.int .i64 fx, .string ⟨p.toArray⟩, .int .i64 fz] 77))
        have HX1 := Lib.hid (HX1.out.alloc (.cells #[.int .i64 fx, .string ⟨p.toArray⟩, .int .i64 fz] 77))
        have HB := Lib.hid (HB.out.alloc HB.out.size (.cells #[.int .i64 fx, .string ⟨p.toArray⟩, .int .i64 fz] 77))
        have b1'' := HX2.out.cell 1 _ rfl
        simp only [bx] at b1''
        clear b1'
        have b0'' := HX2.out.cell 0 _ rfl
        have b2'' := HX2.out.cell 2 _ rfl
        have q0 := HX2.out.frz 0
        have q1 := HX2.out.frz 1
        have q2 := HX2.out.frz 2
        simp only [bx] at b0'' b2''
        go_wp2_with (fail)
        go_at_call 71
        refine (HHP.out _).mono ?_
        rintro e w2 ⟨rfl, rfl⟩
        have HX2 := Lib.hid (Box3 (f := (fx, p, fz)) HX2.out)
        have HX1 := Lib.hid (Box3o (f := (fx, p, fz)) HX1.out (Nat.ne_of_gt hg1))
        have HB := Lib.hid (((HB.out.setCell (p := ⟨w1.heap.size, 0, none⟩) (by show w.heap.size ≤ w1.heap.size; omega) (.int .i64 fx)).setCell (p := ⟨w1.heap.size, 1, none⟩) (by show w.heap.size ≤ w1.heap.size; omega) (.string ⟨p.toArray⟩)).setCell (p := ⟨w1.heap.size, 2, none⟩) (by show w.heap.size ≤ w1.heap.size; omega) (.int .i64 fz))
        simp only at HX1 HX2
        go_wp2
        go_roundw
        case rel => exact ⟨k + 1, by omega, by go_num, by rw [HEE.out]; exact HX2.out, HX1.out, HB.out⟩
        case measure => simp [intOf]; omega
    · have hki : ¬ (k : Int) < (l.length : Int) := by omega
      have HRE : Hid (rfold r1 l k = res) := Lib.hid (by rw [rf_all hlt]; exact HE.out)
      rw [HRE.out] at HX2
      have y0 := HX2.out.cell 0 _ rfl
      have y1 := HX2.out.cell 1 _ rfl
      have y2 := HX2.out.cell 2 _ rfl
      have x0 := HX1.out.cell 0 _ rfl
      have x1 := HX1.out.cell 1 _ rfl
      have x2 := HX1.out.cell 2 _ rfl
      have z0 := HX1.out.frz 0
      have z1 := HX1.out.frz 1
      have z2 := HX1.out.frz 2
      clear hb
      obtain ⟨rx, ry, rz⟩ := res
      simp only at y0 y1 y2
      go_wp2
      refine bodyPost_ret (v := .agg #[.int .i64 rx, .string ⟨ry.toArray⟩, .int .i64 rz]) (by simp [results, Tryz.results51, go_sem, x0, x1, x2, z0, z1, z2]) rfl ⟨rfl, ?_⟩
      exact ((HB.out.setCell (by simp) _).setCell (by simp) _).setCell (by simp) _


set_option maxHeartbeats 8000000 in
theorem spec_rf (v : Value) (B : Nat) (l : List T) (m h t : List UInt8) (u : Value) (w : World) (hv : Holds w B v l) (hB : B ≤ w.heap.size) (hl : total l ≤ 1048576) (ht : t.length ≤ 1048576) :
    Calls Tryz.prog 46 #[v, .agg #[.string ⟨m.toArray⟩, .string ⟨h.toArray⟩, .string ⟨t.toArray⟩, u]] w (RfEnd (rfor l t) w) := by
  have hll : l.length ≤ 1048576 := Nat.le_trans (len_le_total l) hl
  have HT := Lib.hid hl
  obtain ⟨av, cv, rfl, ha⟩ := shape_f hv
  have HA := Lib.hid ha
  have HB0 : Hid (Below w.heap.size w ((w.alloc (.cells #[.string ⟨m.toArray⟩, .string ⟨h.toArray⟩, .string ⟨t.toArray⟩, u] 46)).alloc (.cells #[.int .i64 0, .string ⟨#[]⟩, .int .i64 0] 77))) := Lib.hid (((Below.refl _ _).alloc (Nat.le_refl _) _).alloc (by simp) _)
  have HX1 : Hid (Kept.Box ((w.alloc (.cells #[.string ⟨m.toArray⟩, .string ⟨h.toArray⟩, .string ⟨t.toArray⟩, u] 46)).alloc (.cells #[.int .i64 0, .string ⟨#[]⟩, .int .i64 0] 77)) (w.heap.size + 1) [.int .i64 0, .string ⟨#[]⟩, .int .i64 0]) := Lib.hid (by
    have h := Kept.Box.new (w := w.alloc (.cells #[.string ⟨m.toArray⟩, .string ⟨h.toArray⟩, .string ⟨t.toArray⟩, u] 46)) (T := 77) (a := #[.int .i64 0, .string ⟨#[]⟩, .int .i64 0])
    rw [World.size_alloc] at h; exact h)
  have HC := Lib.hid (fun (W : World) (hb : Below w.heap.size w W) => Nt.spec_nt t W (by omega))
  have HE : Hid (rfold (Nt.ntar t).1 l l.length = rfor l t) := Lib.hid rfl
  have HNO := Lib.hid (ntar_no (t := t))
  have HLN : Hid ((Nt.ntar t).1.length ≤ 8388608) := Lib.hid (Nat.le_trans (ntar_len2 t) (by omega))
  unfold Nt.PairEnd at HC
  unfold RfEnd
  generalize rfor l t = res at *
  generalize Nt.ntar t = np at *
  obtain ⟨r1, r2⟩ := np
  simp only at HC HE HNO HLN
  obtain ⟨s, hs⟩ : ∃ s : ByteArray, s = ⟨r1.toArray⟩ := ⟨_, rfl⟩
  have hsl : s.data.toList = r1 := by rw [hs]
  have hsz : s.size = r1.length := by rw [hs]; simp [ByteArray.size]
  rw [← hs] at HC
  have HSL := Lib.hid hsl
  have HSZ : Hid (s.size = r1.length) := Lib.hid hsz
  clear hs hsl hsz hv ha hl ht
  cases r2
  case false =>
    have HR1 := Lib.hid (HNO.out rfl)
    go_enter Tryz.func46, Tryz.ntmps46
    go_wp2_with (fail)
    go_at_call 81
    refine (HC.out _ HB0.out).mono ?_
    rintro e w1 ⟨rfl, b1⟩
    have HX1 := Lib.hid (HX1.out.below b1)
    have HB1 := Lib.hid (Base.then_below HB0.out b1)
    have hs1 := b1.size
    simp only [World.size_alloc] at hs1
    clear b1
    have HX1 := Lib.hid (HX1.out.alloc (.cells #[.int .i64 0, .string ⟨#[]⟩, .int .i64 0] 77))
    have HX2 : Hid (Kept.Box (w1.alloc (.cells #[.int .i64 0, .string ⟨#[]⟩, .int .i64 0] 77)) w1.heap.size (bx (rfold r1 l 0))) := Lib.hid (by rw [rf_zero]; exact Kept.Box.new)
    have HB2 := Lib.hid (HB1.out.alloc HB1.out.size (.cells #[.int .i64 0, .string ⟨#[]⟩, .int .i64 0] 77))
    have hg1 : w.heap.size + 1 < w1.heap.size := by omega
    go_wp2
    go_loopw [8] (fun i wr => ∃ k : Nat, k ≤ l.length ∧ i = .int .i64 (k : Int) ∧ Kept.Box wr w1.heap.size (bx (rfold r1 l k)) ∧ Kept.Box wr (w.heap.size + 1) [.int .i64 0, .string ⟨#[]⟩, .int .i64 0] ∧ Below w.heap.size w wr) (fun i _ => l.length - (intOf i).toNat)
    case atStart => exact ⟨0, Nat.zero_le _, rfl, HX2.out, HX1.out, HB2.out⟩
    case round =>
      clear HX1 HX2 HB2
      obtain ⟨k, hk, rfl, hx2, hx1, hb⟩ := hrel
      have HB := Lib.hid hb
      have HX2 := Lib.hid hx2
      have HX1 := Lib.hid hx1
      clear hx1 hx2
      by_cases hlt : k < l.length
      · have hki : (k : Int) < (l.length : Int) := by omega
        have HRE : Hid (rfold r1 l k = res) := Lib.hid (by rw [← HE.out, HR1.out, rf_nil, rf_nil])
        rw [HRE.out] at HX2
        have y0 := HX2.out.cell 0 _ rfl
        have y1 := HX2.out.cell 1 _ rfl
        have y2 := HX2.out.cell 2 _ rfl
        have x0 := HX1.out.cell 0 _ rfl
        have x1 := HX1.out.cell 1 _ rfl
        have x2 := HX1.out.cell 2 _ rfl
        have z0 := HX1.out.frz 0
        have z1 := HX1.out.frz 1
        have z2 := HX1.out.frz 2
        clear hb
        obtain ⟨rx, ry, rz⟩ := res
        simp only at y0 y1 y2
        go_wp2
        refine bodyPost_ret (v := .agg #[.int .i64 rx, .string ⟨ry.toArray⟩, .int .i64 rz]) (by simp [results, Tryz.results46, go_sem, x0, x1, x2, z0, z1, z2]) rfl ⟨rfl, ?_⟩
        exact ((HB.out.setCell (by simp) _).setCell (by simp) _).setCell (by simp) _
      · have hki : ¬ (k : Int) < (l.length : Int) := by omega
        have HRE : Hid (rfold r1 l k = res) := Lib.hid (by rw [← HE.out, HR1.out, rf_nil, rf_nil])
        rw [HRE.out] at HX2
        have y0 := HX2.out.cell 0 _ rfl
        have y1 := HX2.out.cell 1 _ rfl
        have y2 := HX2.out.cell 2 _ rfl
        have x0 := HX1.out.cell 0 _ rfl
        have x1 := HX1.out.cell 1 _ rfl
        have x2 := HX1.out.cell 2 _ rfl
        have z0 := HX1.out.frz 0
        have z1 := HX1.out.frz 1
        have z2 := HX1.out.frz 2
        clear hb
        obtain ⟨rx, ry, rz⟩ := res
        simp only at y0 y1 y2
        go_wp2
        refine bodyPost_ret (v := .agg #[.int .i64 rx, .string ⟨ry.toArray⟩, .int .i64 rz]) (by simp [results, Tryz.results46, go_sem, x0, x1, x2, z0, z1, z2]) rfl ⟨rfl, ?_⟩
        exact ((HB.out.setCell (by simp) _).setCell (by simp) _).setCell (by simp) _
  go_enter Tryz.func46, Tryz.ntmps46
  go_wp2_with (fail)
  go_at_call 81
  refine (HC.out _ HB0.out).mono ?_
  rintro e w1 ⟨rfl, b1⟩
  have HX1 := Lib.hid (HX1.out.below b1)
  have HB1 := Lib.hid (Base.then_below HB0.out b1)
  have hs1 := b1.size
  simp only [World.size_alloc] at hs1
  clear b1
  have HX1 := Lib.hid (HX1.out.alloc (.cells #[.int .i64 0, .string ⟨#[]⟩, .int .i64 0] 77))
  have HX2 : Hid (Kept.Box (w1.alloc (.cells #[.int .i64 0, .string ⟨#[]⟩, .int .i64 0] 77)) w1.heap.size (bx (rfold r1 l 0))) := Lib.hid (by rw [rf_zero]; exact Kept.Box.new)
  have HB2 := Lib.hid (HB1.out.alloc HB1.out.size (.cells #[.int .i64 0, .string ⟨#[]⟩, .int .i64 0] 77))
  have hg1 : w.heap.size + 1 < w1.heap.size := by omega
  go_wp2
  go_loopw [8] (fun i wr => ∃ k : Nat, k ≤ l.length ∧ i = .int .i64 (k : Int) ∧ Kept.Box wr w1.heap.size (bx (rfold r1 l k)) ∧ Kept.Box wr (w.heap.size + 1) [.int .i64 0, .string ⟨#[]⟩, .int .i64 0] ∧ Below w.heap.size w wr) (fun i _ => l.length - (intOf i).toNat)
  case atStart => exact ⟨0, Nat.zero_le _, rfl, HX2.out, HX1.out, HB2.out⟩
  case round =>
    clear HX1 HX2 HB2
    obtain ⟨k, hk, rfl, hx2, hx1, hb⟩ := hrel
    have HB := Lib.hid hb
    have HX2 := Lib.hid hx2
    have HX1 := Lib.hid hx1
    clear hx1 hx2
    by_cases hlt : k < l.length
    · obtain ⟨b, off, rfl, hbw, hcap, hc⟩ := HA.out (by omega)
      obtain ⟨c0, c1, c2⟩ := at_cells (at_below hc hb (Nat.lt_of_lt_of_le hbw hB)) hlt
      have HLE : Hid ((l.getD k nov).2.1.length ≤ 1048576) := Lib.hid (Nat.le_trans (mem_total (Rec.getD_mem hlt)) HT.out)
      have HYE := Lib.hid (fun h => rf_yes (t := r1) hlt h)
      have HNE := Lib.hid (fun h => rf_no (t := r1) hlt h)
      unfold better at HYE HNE
      clear hb hc
      generalize l.getD k nov = x at c0 c1 c2 HLE HYE HNE
      generalize rfold r1 l k = bk at HX2 HYE HNE ⊢
      obtain ⟨fx, p, fz⟩ := x
      obtain ⟨bx0, bp, bz⟩ := bk
      simp only at c0 c1 c2 HLE HYE HNE
      have hki : (k : Int) < (l.length : Int) := by omega
      have hps : (⟨p.toArray⟩ : ByteArray).size = p.length := by simp [ByteArray.size]
      have hbs : (⟨bp.toArray⟩ : ByteArray).size = bp.length := by simp [ByteArray.size]
      have b1' := HX2.out.cell 1 _ rfl
      simp only [bx] at b1'
      by_cases hn : (p.length : Int) ≤ (s.size : Int)
      case neg =>
        have dn : decide (p.length ≤ s.size) = false := by simpa using hn
        have HEE := Lib.hid (HNE.out (by rw [pre_long (by have := HSZ.out; omega)]; simp))
        clear HYE HNE
        have HSD := Lib.hid (grow_start HB.out)
        have f0 : ∀ u : RegS.In (GrowS w wr), u.w.cell? ⟨b, off + k * 3 + 1, none⟩ = some (.string ⟨p.toArray⟩) := fun u => grow_old u.h c1
        have f1 : ∀ u : RegS.In (GrowS w wr), u.w.cell? ⟨w1.heap.size, 1, none⟩ = some (.string ⟨bp.toArray⟩) := fun u => grow_old u.h b1'
        go_wp2
        refine RegS.region (GrowS w wr) (by kernel_rfl) (by kernel_rfl) HSD.out ?_
        haveI : Nonempty (RegS.In (GrowS w wr)) := ⟨⟨_, HSD.out⟩⟩
        repeat (first | go_big_quiet_step (fail) | quiet_step (fail))
        refine wpQuiet_nil ?_
        intro _ hw'
        obtain ⟨⟨wz, hS⟩, hw''⟩ := hw'
        subst hw''
        have HX2 := Lib.hid (HX2.out.below hS.1)
        have HX1 := Lib.hid (HX1.out.below hS.1)
        have HB := Lib.hid hS.2
        clear hS c0 c1 c2 f0 f1 b1'
        go_wp2
        go_roundw
        case rel => exact ⟨k + 1, by omega, by go_num, by rw [HEE.out]; exact HX2.out, HX1.out, HB.out⟩
        case measure => simp [intOf]; omega
      have dn : decide (p.length ≤ s.size) = true := by simpa using hn
      have hpt : p.isPrefixOf r1 = ((s.extract 0 p.length).toList == p) := by
        rw [pre_take, ByteArray.toList_eq, Tx.ext_eq, HSL.out]; simp
      cases hq : ((s.extract 0 p.length).toList == p) with
      | false =>
        have HEE := Lib.hid (HNE.out (by rw [hpt, hq]; simp))
        clear HYE HNE hpt
        have HSD := Lib.hid (grow_start HB.out)
        have f0 : ∀ u : RegS.In (GrowS w wr), u.w.cell? ⟨b, off + k * 3 + 1, none⟩ = some (.string ⟨p.toArray⟩) := fun u => grow_old u.h c1
        have f1 : ∀ u : RegS.In (GrowS w wr), u.w.cell? ⟨w1.heap.size, 1, none⟩ = some (.string ⟨bp.toArray⟩) := fun u => grow_old u.h b1'
        go_wp2
        refine RegS.region (GrowS w wr) (by kernel_rfl) (by kernel_rfl) HSD.out ?_
        haveI : Nonempty (RegS.In (GrowS w wr)) := ⟨⟨_, HSD.out⟩⟩
        repeat (first | go_big_quiet_step (fail) | quiet_step (fail))
        refine wpQuiet_nil ?_
        intro _ hw'
        obtain ⟨⟨wz, hS⟩, hw''⟩ := hw'
        subst hw''
        have HX2 := Lib.hid (HX2.out.below hS.1)
        have HX1 := Lib.hid (HX1.out.below hS.1)
        have HB := Lib.hid hS.2
        clear hS c0 c1 c2 f0 f1 b1'
        go_wp2
        go_roundw
        case rel => exact ⟨k + 1, by omega, by go_num, by rw [HEE.out]; exact HX2.out, HX1.out, HB.out⟩
        case measure => simp [intOf]; omega
      | true =>
        by_cases hlen : bp.length < p.length
        case neg =>
          have dl : decide (bp.length < p.length) = false := by simp; omega
          have HEE := Lib.hid (HNE.out (by rw [decide_eq_false hlen]; rfl))
          clear HYE HNE hpt
          have HSD := Lib.hid (grow_start HB.out)
          have f0 : ∀ u : RegS.In (GrowS w wr), u.w.cell? ⟨b, off + k * 3 + 1, none⟩ = some (.string ⟨p.toArray⟩) := fun u => grow_old u.h c1
          have f1 : ∀ u : RegS.In (GrowS w wr), u.w.cell? ⟨w1.heap.size, 1, none⟩ = some (.string ⟨bp.toArray⟩) := fun u => grow_old u.h b1'
          go_wp2
          refine RegS.region (GrowS w wr) (by kernel_rfl) (by kernel_rfl) HSD.out ?_
          haveI : Nonempty (RegS.In (GrowS w wr)) := ⟨⟨_, HSD.out⟩⟩
          repeat (first | go_big_quiet_step (fail) | quiet_step (fail))
          refine wpQuiet_nil ?_
          intro _ hw'
          obtain ⟨⟨wz, hS⟩, hw''⟩ := hw'
          subst hw''
          have HX2 := Lib.hid (HX2.out.below hS.1)
          have HX1 := Lib.hid (HX1.out.below hS.1)
          have HB := Lib.hid hS.2
          clear hS c0 c1 c2 f0 f1 b1'
          go_wp2
          go_roundw
          case rel => exact ⟨k + 1, by omega, by go_num, by rw [HEE.out]; exact HX2.out, HX1.out, HB.out⟩
          case measure => simp [intOf]; omega
        have dl : decide (bp.length < p.length) = true := by simp; omega
        have HEE := Lib.hid (HYE.out (by rw [hpt, hq, decide_eq_true hlen]; rfl))
        clear HYE HNE hpt
        have HSD := Lib.hid (grow_start HB.out)
        have f0 : ∀ u : RegS.In (GrowS w wr), u.w.cell? ⟨b, off + k * 3 + 1, none⟩ = some (.string ⟨p.toArray⟩) := fun u => grow_old u.h c1
        have f1 : ∀ u : RegS.In (GrowS w wr), u.w.cell? ⟨w1.heap.size, 1, none⟩ = some (.string ⟨bp.toArray⟩) := fun u => grow_old u.h b1'
        go_wp2
        refine RegS.region (GrowS w wr) (by kernel_rfl) (by kernel_rfl) HSD.out ?_
        haveI : Nonempty (RegS.In (GrowS w wr)) := ⟨⟨_, HSD.out⟩⟩
        repeat (first | go_big_quiet_step (fail) | quiet_step (fail))
        refine wpQuiet_nil ?_
        intro _ hw'
        obtain ⟨⟨wz, hS⟩, hw''⟩ := hw'
        subst hw''
        have HX2 := Lib.hid (HX2.out.below hS.1)
        have HX1 := Lib.hid (HX1.out.below hS.1)
        have HB := Lib.hid hS.2
        have d0 := grow_old hS c0
        have d1 := grow_old hS c1
        have d2 := grow_old hS c2
        clear hS c0 c1 c2 f0 f1 b1'
        have b0'' := HX2.out.cell 0 _ rfl
        have b1'' := HX2.out.cell 1 _ rfl
        have b2'' := HX2.out.cell 2 _ rfl
        have q0 := HX2.out.frz 0
        have q1 := HX2.out.frz 1
        have q2 := HX2.out.frz 2
        simp only [bx] at b0'' b1'' b2''
        have HX2 := Lib.hid (Box3 (f := (fx, p, fz)) HX2.out)
        have HX1 := Lib.hid (Box3o (f := (fx, p, fz)) HX1.out (Nat.ne_of_gt hg1))
        have HB := Lib.hid (((HB.out.setCell (p := ⟨w1.heap.size, 0, none⟩) (by show w.heap.size ≤ w1.heap.size; omega) (.int .i64 fx)).setCell (p := ⟨w1.heap.size, 1, none⟩) (by show w.heap.size ≤ w1.heap.size; omega) (.string ⟨p.toArray⟩)).setCell (p := ⟨w1.heap.size, 2, none⟩) (by show w.heap.size ≤ w1.heap.size; omega) (.int .i64 fz))
        simp only at HX1 HX2
        go_wp2
        go_roundw
        case rel => exact ⟨k + 1, by omega, by go_num, by rw [HEE.out]; exact HX2.out, HX1.out, HB.out⟩
        case measure => simp [intOf]; omega
    · have hki : ¬ (k : Int) < (l.length : Int) := by omega
      have HRE : Hid (rfold r1 l k = res) := Lib.hid (by rw [rf_all hlt]; exact HE.out)
      rw [HRE.out] at HX2
      have y0 := HX2.out.cell 0 _ rfl
      have y1 := HX2.out.cell 1 _ rfl
      have y2 := HX2.out.cell 2 _ rfl
      have x0 := HX1.out.cell 0 _ rfl
      have x1 := HX1.out.cell 1 _ rfl
      have x2 := HX1.out.cell 2 _ rfl
      have z0 := HX1.out.frz 0
      have z1 := HX1.out.frz 1
      have z2 := HX1.out.frz 2
      clear hb
      obtain ⟨rx, ry, rz⟩ := res
      simp only at y0 y1 y2
      go_wp2
      refine bodyPost_ret (v := .agg #[.int .i64 rx, .string ⟨ry.toArray⟩, .int .i64 rz]) (by simp [results, Tryz.results46, go_sem, x0, x1, x2, z0, z1, z2]) rfl ⟨rfl, ?_⟩
      exact ((HB.out.setCell (by simp) _).setCell (by simp) _).setCell (by simp) _

end Go.Proofs.YtidmppphlcfpjaaGreatDoor.Rul

/-
  CONTRACT of the program's filterFields, at any closure with one captured variable that only reads: it returns, in new memory, the fields that the closure keeps; nothing that was there before is changed.
-/
namespace Go.Proofs.YtidmppphlcfpjaaGreatDoor.Flds
open Go Go.RowKit
set_option linter.unusedVariables false
set_option maxRecDepth 1000000

theorem filt_more {p : Fld → Bool} {l : List Fld} {k : Nat} (h : k < l.length) : (l.take (k + 1)).filter p = if p (l.getD k nofld) = true then (l.take k).filter p ++ [l.getD k nofld] else (l.take k).filter p := by
  rw [List.take_succ_eq_append_getElem h, List.filter_append]
  have e : l.getD k nofld = l[k] := by simp [List.getD, h]
  rw [e]
  by_cases hp : p l[k] = true
  · simp [hp]
  · simp [hp]
theorem filt_le (p : Fld → Bool) (l : List Fld) (k : Nat) : ((l.take k).filter p).length ≤ l.length := by
  have h1 := List.length_filter_le p (l.take k); have h2 := List.length_take_le' k l; omega

def FilterEnd (l : List Fld) (w : World) (e : Ending) (w' : World) : Prop := ∃ v, e = .returned v ∧ Own w' w.heap.size v l ∧ Below w.heap.size w w'
/-- K is a function with a body. -/
def Enters (K : FuncId) : Prop := ∀ (args : Array Value) (w : World), Sem.run Tryz.prog (callFunc K args) w = .ok (.enter K args) w
/-- What a closure that keeps by 'p' does, at every world that has only grown. -/
def Keeps (K : FuncId) (q : Value) (p : Fld → Bool) (w : World) : Prop := ∀ (x y : List UInt8) (wx : World), Below w.heap.size w wx → Calls Tryz.prog K #[.agg #[.string ⟨x.toArray⟩, .string ⟨y.toArray⟩], q] wx fun e w' => e = .returned (.bool (p (x, y))) ∧ Below wx.heap.size wx w'

theorem filter_nil (K : FuncId) (q : Value) (a : Option Addr) (cap : Nat) (w : World) :
    Calls Tryz.prog 177 #[.slice a 0 cap, .func (.func K) #[] #[q]] w (FilterEnd [] w) := by
  go_enter Tryz.func177, Tryz.ntmps177
  go_wp2
  go_loop [5, 11] (fun v i => i = .int .i64 0 ∧ v = .slice (some ⟨w.heap.size, 0, none⟩) 0 0) (fun _ i => 0)
  case atStart => exact ⟨rfl, rfl⟩
  case round =>
    obtain ⟨rfl, rfl⟩ := hrel
    go_wp2
    go_ret
    exact ⟨_, rfl, own_lit_nil w, (Below.refl _ _).alloc (Nat.le_refl _) _⟩

theorem alloc_two (w : World) (x y : Value) (T : TypeId) : (w.alloc (.cells #[x, y] T)).cell? ⟨w.heap.size, 0, none⟩ = some x ∧ (w.alloc (.cells #[x, y] T)).cell? ⟨w.heap.size, 1, none⟩ = some y := ⟨by rw [World.cell?_alloc_new]; rfl, by rw [World.cell?_alloc_new]; rfl⟩

set_option maxHeartbeats 1000000 in
theorem filter_some (K : FuncId) (q : Value) (p : Fld → Bool) (b off cap : Nat) (l : List Fld) (w : World) (hE : Enters K) (hK : Keeps K q p w) (hc : At w b off l) (h0 : 0 < l.length) (hl : l.length ≤ 1048576) :
    Calls Tryz.prog 177 #[.slice (some ⟨b, off, none⟩) l.length cap, .func (.func K) #[] #[q]] w (FilterEnd (l.filter p) w) := by
  obtain ⟨i0, hi, hz0, hz1, hz2⟩ := info_parts info_fld
  have hbl := at_lt hc h0
  have HC := Lib.hid hc
  have HK := Lib.hid hK
  have HO := Lib.hid (own_lit_nil w)
  have HE := Lib.hid hE
  clear hc hK hE
  go_enter Tryz.func177, Tryz.ntmps177
  go_wp2
  go_loopw [5, 11] (fun v i wr => ∃ k : Nat, k ≤ l.length ∧ i = .int .i64 (k : Int) ∧ Own wr w.heap.size v ((l.take k).filter p) ∧ Below w.heap.size w wr) (fun _ i _ => l.length - (intOf i).toNat)
  case atStart => exact ⟨0, Nat.zero_le _, rfl, by rw [List.take_zero]; exact HO.out, (Below.refl _ _).alloc (Nat.le_refl _) _⟩
  case round =>
    clear HO
    obtain ⟨k, hk, rfl, hown, hb⟩ := hrel
    by_cases hlt : k < l.length
    · obtain ⟨c1, c2⟩ := at_below HC.out hb hbl k hlt
      have HM := Lib.hid (filt_more (p := p) hlt)
      generalize hx : l.getD k nofld = f at c1 c2 HM
      clear hx
      obtain ⟨x, y⟩ := f
      unfold sv at c1 c2
      have HB := Lib.hid hb
      have HO := Lib.hid hown
      clear hb hown
      have hws := HB.out.size
      have hwa := alloc_two wr (.string ⟨x.toArray⟩) (.string ⟨y.toArray⟩) 123
      have HKx := Lib.hid (HK.out x y (wr.alloc (.cells #[.string ⟨x.toArray⟩, .string ⟨y.toArray⟩] 123)) (HB.out.alloc HB.out.size _))
      by_cases hp : p (x, y) = true
      · rw [hp] at HKx
        rw [if_pos hp] at HM
        clear hp
        have hL := fcs_len ((l.take k).filter p)
        have HL := Lib.hid (filt_le p l k)
        go_wp2_with (fail)
        rw [HE.out, Oper.upon_enter]
        refine HKx.out.mono ?_
        rintro e w1 ⟨rfl, hb1⟩
        have hg1 := hb1.size
        rw [World.size_alloc] at hg1
        have d1 : w1.cell? ⟨wr.heap.size, 0, none⟩ = some (.string ⟨x.toArray⟩) := (hb1.cell (p := ⟨wr.heap.size, 0, none⟩) (by rw [World.size_alloc]; exact Nat.lt_succ_self _)).trans hwa.1
        have d2 : w1.cell? ⟨wr.heap.size, 1, none⟩ = some (.string ⟨y.toArray⟩) := (hb1.cell (p := ⟨wr.heap.size, 1, none⟩) (by rw [World.size_alloc]; exact Nat.lt_succ_self _)).trans hwa.2
        have hbb : Below wr.heap.size wr w1 := ((Below.refl wr.heap.size wr).alloc (Nat.le_refl _) _).trans (hb1.mono (by rw [World.size_alloc]; omega))
        have hown := own_below HO.out hbb
        have hb := HB.out.trans (hbb.mono HB.out.size)
        clear hb1 hbb
        go_wp2_with (at_builtin; refine wpList_append_own _ rfl (.tmp 18) (.tmp 20) 44 rfl w.heap.size 123 i0 (.agg #[.string ⟨#[]⟩, .string ⟨#[]⟩]) 2 32 Tryz.underlying44 hi hz0 hz1 hz2 rfl (by decide) _ _ _ rfl (hown.alloc _) ⟨w1.heap.size, 0, none⟩ 1 1 [.string ⟨x.toArray⟩, .string ⟨y.toArray⟩] rfl rfl (news_two _ _ _ _) (two_one (x, y)) (by have := HL.out; unfold maxLen; omega) (by have := HL.out; omega) (by have := hb.size; simp; omega) ?_; intro v1 w2 hown1 hg2 _)
        have R := Lib.hid (push_own (f := (x, y)) hown hb (Nat.le_refl _) hown1 hg2)
        clear hown hown1 hg2 hb
        go_wp2
        go_roundw
        case rel => exact ⟨k + 1, by omega, by go_num, by rw [HM.out]; exact R.out.1, R.out.2⟩
        case measure => simp [intOf]; omega
      · have hp' : p (x, y) = false := by simpa using hp
        rw [hp'] at HKx
        rw [if_neg hp] at HM
        clear hp hp'
        go_wp2_with (fail)
        rw [HE.out, Oper.upon_enter]
        refine HKx.out.mono ?_
        rintro e w1 ⟨rfl, hb1⟩
        have hbb : Below wr.heap.size wr w1 := ((Below.refl wr.heap.size wr).alloc (Nat.le_refl _) _).trans (hb1.mono (by rw [World.size_alloc]; omega))
        have HR := Lib.hid (And.intro (own_below HO.out hbb) (HB.out.trans (hbb.mono HB.out.size)))
        clear hb1 hbb
        go_wp2
        go_roundw
        case rel => exact ⟨k + 1, by omega, by go_num, by rw [HM.out]; exact HR.out.1, HR.out.2⟩
        case measure => simp [intOf]; omega
    · have HF : Hid ((l.take k).filter p = l.filter p) := Lib.hid (by rw [List.take_of_length_le (by omega)])
      have HO := Lib.hid (And.intro hown hb)
      clear hown hb
      go_wp2
      go_ret
      exact ⟨_, rfl, by rw [← HF.out]; exact HO.out.1, HO.out.2⟩

theorem filter_any (K : FuncId) (q : Value) (p : Fld → Bool) (v : Value) (B : Nat) (l : List Fld) (w : World) (hE : Enters K) (hK : Keeps K q p w) (h : Holds w B v l) (hl : l.length ≤ 1048576) :
    Calls Tryz.prog 177 #[v, .func (.func K) #[] #[q]] w (FilterEnd (l.filter p) w) := by
  rcases h with ⟨rfl, a, cap, rfl⟩ | ⟨h0, b, off, cap, rfl, _, _, hc⟩
  · exact filter_nil K q a cap w
  · exact filter_some K q p b off cap l w hE hK hc h0 hl

/-! The closures of GetField and DropField: one captured text. -/
theorem enters_get : Enters 178 := fun args w => rfl
end Go.Proofs.YtidmppphlcfpjaaGreatDoor.Flds

/-
  CONTRACT of the model's JoinList: at every slice of texts that are not too long together it returns the texts with a comma and a space between them; nothing that was there before is changed.
-/
namespace Go.Proofs.YtidmppphlcfpjaaGreatDoor.Tx
open Go Go.RowKit Strs
set_option linter.unusedVariables false
set_option maxRecDepth 1000000

theorem spec_join_nil (a : Option Addr) (cap : Nat) (w : World) :
    Calls Tryz.prog 107 #[.slice a 0 cap] w (JoinEnd [] w) := by
  go_enter Tryz.func107, Tryz.ntmps107
  go_wp2
  go_loop [3, 4] (fun s i => i = .int .i64 0 ∧ s = .string ⟨#[]⟩) (fun _ i => 0)
  case atStart => exact ⟨rfl, rfl⟩
  case round =>
    obtain ⟨rfl, rfl⟩ := hrel
    go_wp2
    go_ret
    exact ⟨rfl, Below.refl _ _⟩

set_option maxHeartbeats 1000000 in
theorem spec_join_some (b off cap : Nat) (xs : List (List UInt8)) (w : World) (hc : At w b off xs) (h0 : 0 < xs.length) (ht : total xs ≤ 67108864) :
    Calls Tryz.prog 107 #[.slice (some ⟨b, off, none⟩) xs.length cap] w (JoinEnd xs w) := by
  have hl : xs.length ≤ 67108864 := by unfold total at ht; omega
  have HC := Lib.hid hc
  have HT := Lib.hid ht
  clear hc ht
  go_enter Tryz.func107, Tryz.ntmps107
  go_wp2
  go_loop [3, 4] (fun s i => ∃ k : Nat, k ≤ xs.length ∧ i = .int .i64 (k : Int) ∧ s = .string ⟨(join (xs.take k)).toArray⟩) (fun _ i => xs.length - (intOf i).toNat)
  case atStart => exact ⟨0, Nat.zero_le _, rfl, rfl⟩
  case round =>
    obtain ⟨k, hk, rfl, rfl⟩ := hrel
    by_cases hlt : k < xs.length
    · have hcell := HC.out k hlt
      have HJ := Lib.hid (join_len xs k hk)
      have HP := Lib.hid (pre_more hlt)
      have HPL := Lib.hid (pre_le xs (k + 1))
      unfold sv at hcell
      by_cases hz : 0 < k
      · have hzi : 0 < (k : Int) := by omega
        have HM := Lib.hid (join_more hlt hz)
        generalize xs.getD k [] = x at *
        generalize join (xs.take k) = y at *
        have hadd1 := addtwo y [44, 32] (by have := HJ.out; have := HP.out; have := HPL.out; have := HT.out; unfold total at this; simp only [List.length_append, List.length_cons, List.length_nil]; omega)
        have hadd2 := addtwo (y ++ [44, 32]) x (by have := HJ.out; have := HP.out; have := HPL.out; have := HT.out; unfold total at this; simp only [List.length_append, List.length_cons, List.length_nil]; omega)
        go_wp2
        go_round
        case rel => exact ⟨k + 1, by omega, by go_num, by rw [HM.out]; simp⟩
        case measure => simp [intOf]; omega
      · have hzi : ¬ 0 < (k : Int) := by omega
        have h00 : join (xs.take k) = [] := by rw [show k = 0 by omega]; rfl
        have HM : Hid (join (xs.take (k + 1)) = xs.getD k []) := Lib.hid (by rw [show k = 0 by omega]; exact join_first h0)
        rw [h00]
        clear h00 HJ
        generalize xs.getD k [] = x at *
        have hadd2 : ∀ W, (Op.stringOp .add ⟨#[]⟩ ⟨x.toArray⟩).run Tryz.prog W = .ok (.string ⟨x.toArray⟩) W := addtwo [] x (by have := HP.out; have := HPL.out; have := HT.out; unfold total at this; simp only [List.length_append, List.length_cons, List.length_nil]; omega)
        go_wp2
        go_round
        case rel => exact ⟨k + 1, by omega, by go_num, by rw [HM.out]⟩
        case measure => simp [intOf]; omega
    · have HE : Hid (join (xs.take k) = join xs) := Lib.hid (by rw [List.take_of_length_le (by omega)])
      go_wp2
      go_ret
      exact ⟨ret_join HE.out, Below.refl _ _⟩

theorem spec_join (v : Value) (B : Nat) (xs : List (List UInt8)) (w : World) (h : Holds w B v xs) (ht : total xs ≤ 67108864) :
    Calls Tryz.prog 107 #[v] w (JoinEnd xs w) := by
  rcases h with ⟨rfl, a, cap, rfl⟩ | ⟨h0, b, off, cap, rfl, _, _, hc⟩
  · exact spec_join_nil a cap w
  · exact spec_join_some b off cap xs w hc h0 ht

end Go.Proofs.YtidmppphlcfpjaaGreatDoor.Tx
