/-
  CONTRACTS of the draws of chapter 5 (l5Draw, l5Any, DrawSetField, DrawMergeFields, DrawFormatFields): over any slice of bytes they answer few short fields in memory of their own; nothing that was there before is changed.
-/
import Derived.Test.YtobhdfkhfmpdlaaDoorCurStr
import Derived.Test.YtobhdfkhfmpdlaaDoorCurNew
import Derived.Test.YtobhdfkhfmpdlaaDoorCurOnce
import Derived.Test.YtobhdfkhfmpdlaaDoorDrawList
import Derived.Test.YtobhdfkhfmpdlaaDoorFldTot
namespace Go.Proofs.YtobhdfkhfmpdlaaDoor.Cur
open Go Go.RowKit
set_option linter.unusedVariables false
set_option maxRecDepth 1000000

def fnames : List (List UInt8) := [[97, 99, 99, 101, 112, 116, 45, 108, 97, 110, 103, 117, 97, 103, 101], [97], [98], [99, 97, 99, 104, 101, 45, 99, 111, 110, 116, 114, 111, 108], [120, 45, 107], [97]]
theorem fnames_len (x : List UInt8) (h : x ∈ fnames) : x.length ≤ 15 := by
  have hall : fnames.all (fun x => decide (x.length ≤ 15)) = true := by decide
  have := List.all_eq_true.1 hall x h
  simpa using this
def fvalues : List (List UInt8) := [[], [100, 101, 44, 32, 101, 110], [110, 111, 45, 99, 97, 99, 104, 101], [49], [120, 32, 32, 121], [109, 97, 120, 45, 97, 103, 101, 61, 53], [34, 113, 34]]
theorem fvalues_len (x : List UInt8) (h : x ∈ fvalues) : x.length ≤ 9 := by
  have hall : fvalues.all (fun x => decide (x.length ≤ 9)) = true := by decide
  have := List.all_eq_true.1 hall x h
  simpa using this
def fodds : List (List UInt8) := [[65], [97, 32, 98], [], [98]]
theorem fodds_len (x : List UInt8) (h : x ∈ fodds) : x.length ≤ 15 := by
  have hall : fodds.all (fun x => decide (x.length ≤ 15)) = true := by decide
  have := List.all_eq_true.1 hall x h
  simpa using this
def foddv : List (List UInt8) := [[32, 120], [195, 169], [97, 13, 10, 98], [111, 107]]
theorem foddv_len (x : List UInt8) (h : x ∈ foddv) : x.length ≤ 9 := by
  have hall : foddv.all (fun x => decide (x.length ≤ 9)) = true := by decide
  have := List.all_eq_true.1 hall x h
  simpa using this
def fasked : List (List UInt8) := [[97], [98], [120, 45, 107], [110, 111, 110, 101]]
theorem fasked_len (x : List UInt8) (h : x ∈ fasked) : x.length ≤ 4 := by
  have hall : fasked.all (fun x => decide (x.length ≤ 4)) = true := by decide
  have := List.all_eq_true.1 hall x h
  simpa using this
/-- Few short fields. -/
def Few (l : List Flds.Fld) : Prop := l.length ≤ 5 ∧ ∀ f ∈ l, f.1.length ≤ 15 ∧ f.2.length ≤ 9
theorem few_total {l : List Flds.Fld} (h : Few l) : Flds.total l ≤ 125 := by
  have hs : ∀ q : List Flds.Fld, (∀ f ∈ q, f.1.length ≤ 15 ∧ f.2.length ≤ 9) → (q.map Flds.wt).sum ≤ 24 * q.length := by
    intro q
    induction q with
    | nil => intro _; simp
    | cons a r ih =>
      intro hq
      have h1 := hq a (List.mem_cons_self ..)
      have h2 := ih (fun f hf => hq f (List.mem_cons_of_mem _ hf))
      rw [List.map_cons, List.sum_cons, List.length_cons]
      unfold Flds.wt at *
      omega
  have h1 := hs l h.2
  have h2 := h.1
  unfold Flds.total
  omega
theorem few_push {l : List Flds.Fld} {x y : List UInt8} (h : ∀ f ∈ l, f.1.length ≤ 15 ∧ f.2.length ≤ 9) (hx : x.length ≤ 15) (hy : y.length ≤ 9) : ∀ f ∈ l ++ [(x, y)], f.1.length ≤ 15 ∧ f.2.length ≤ 9 := by
  intro f hf
  rcases List.mem_append.1 hf with hf | hf
  · exact h f hf
  · rw [List.mem_singleton] at hf; subst hf; exact ⟨hx, hy⟩
theorem few_put {l : List Flds.Fld} {x y : List UInt8} (h : Few l) (k : Nat) (hx : x.length ≤ 15) (hy : y.length ≤ 9) : Few (l.set k (x, y)) := by
  refine ⟨by rw [List.length_set]; exact h.1, fun f hf => ?_⟩
  rcases List.mem_or_eq_of_mem_set hf with hf | hf
  · exact h.2 f hf
  · subst hf; exact ⟨hx, hy⟩
/-- A slice of fields of one's own that has a block. -/
def Sh (v : Value) (l : List Flds.Fld) : Prop := ∃ g cp, v = .slice (some ⟨g, 0, none⟩) l.length cp
theorem sh_own {w : World} {B n : Nat} {v : Value} {xs : List Value} {T : TypeId} {s : Nat} (h : w.ownsRow B T s v n xs) (h0 : 0 < n) : ∃ g cp, v = .slice (some ⟨g, 0, none⟩) n cp := by
  rcases h.2 with ⟨rfl, h1⟩ | ⟨g, cap, cur, rfl, _⟩
  · omega
  · exact ⟨g, cap, rfl⟩
/-- How a draw of fields ends. -/
def DrawnF (c : Nat) (bv : Value) (w : World) (e : Ending) (w' : World) : Prop := ∃ (v : Value) (l : List Flds.Fld), e = .returned v ∧ Few l ∧ Sh v l ∧ Flds.Own w' w.heap.size v l ∧ CurAt w' c bv ∧ w.grownBy w' (some c)

set_option maxHeartbeats 4000000 in
theorem flds_any (c B : Nat) (bv : Value) (w : World) (hcur : CurAt w c bv) (hby : Bytes w B bv) (hB : B ≤ c) :
    Calls Tryd.prog 48 #[.pointer (some ⟨c, 0, none⟩)] w (DrawnF c bv w) := by
  obtain ⟨i0, hi, hz0, hz1, hz2⟩ := info_parts Flds.info_fld
  have hcw := cur_lt hcur
  have hcu := cur_alloc hcur (.cells #[] 46)
  have hby1 := bytes_alloc hby (.cells #[] 46)
  have hgw : w.grownBy (w.alloc (.cells #[] 46)) (some c) := World.grownBy_alloc _ _ _
  have HO := Lib.hid (Flds.own_lit_nil w)
  clear hcur
  go_enter Tryd.func48, Tryd.ntmps48
  go_wp2_with (fail)
  go_at_call 66
  refine (below_any c B bv 6 _ hcu hby1 hB (by omega)).mono ?_
  rintro e w2 ⟨x, hx, rfl, hc2, hg2⟩
  obtain ⟨n, rfl, hn⟩ : ∃ n : Nat, x = (n : Int) ∧ n ≤ 5 := ⟨x.toNat, by have := hx.1; omega, by have := hx.1; have := hx.2; omega⟩
  have HO2 := Lib.hid (HO.out.kept hg2 (Or.inr (fun e => by have := (HO.out.lt _ e).1; omega)))
  have HI := Lib.hid (And.intro hc2 (gb_trans hgw hg2))
  have HBY := Lib.hid hby
  clear hx hc2 hg2 hby1 hby hgw hcu HO
  go_wp2
  go_loopw [3, 4] (fun u i wr => ∃ (k : Nat) (l : List Flds.Fld), i = .int .i64 (k : Int) ∧ l.length + k ≤ 5 ∧ Hid (∀ f ∈ l, f.1.length ≤ 15 ∧ f.2.length ≤ 9) ∧ Hid (Sh u l) ∧ Hid (Flds.Own wr w.heap.size u l) ∧ Hid (CurAt wr c bv) ∧ Hid (w.grownBy wr (some c))) (fun _ i _ => (intOf i).toNat)
  case atStart => exact ⟨n, [], rfl, by simp; omega, Lib.hid (fun f hf => by cases hf), Lib.hid ⟨_, _, rfl⟩, HO2, Lib.hid HI.out.1, Lib.hid HI.out.2⟩
  case round =>
    clear HI HO2
    obtain ⟨k, l, rfl, hl, HF, HS, HO, HC, HG⟩ := hrel
    by_cases hz : 0 < k
    · have hzi : 0 < (k : Int) := by omega
      have hyr := bytes_kept HBY.out HG.out hB
      have H1 := str_lits c B bv fnames 6 rfl wr HC.out hyr hB (by decide) (by decide) 9
      have hL := Flds.fcs_len l
      go_wp2_with (fail)
      go_at_call 41
      refine H1.mono ?_
      rintro e w3 ⟨x, hx, rfl, hc3, hg3⟩
      have HX := Lib.hid (fnames_len x hx)
      have HO3 := Lib.hid (HO.out.kept hg3 (Or.inr (fun e => by have := (HO.out.lt _ e).1; omega)))
      have HG3 := Lib.hid (gb_trans HG.out hg3)
      have hy3 := bytes_kept hyr hg3 hB
      have H2 := str_lits c B bv fvalues 7 rfl w3 hc3 hy3 hB (by decide) (by decide) 9
      clear hx hg3 hc3 HO HC HG H1 hyr hy3
      go_wp2_with (fail)
      go_at_call 41
      refine H2.mono ?_
      rintro e w4 ⟨y, hy, rfl, hc4, hg4⟩
      have HY := Lib.hid (fvalues_len y hy)
      have hown := HO3.out.kept hg4 (Or.inr (fun e => by have := (HO3.out.lt _ e).1; omega))
      have HG4 := Lib.hid (gb_trans HG3.out hg4)
      have HC4 := Lib.hid hc4
      have hsz4 := HG4.out.size
      clear hy hg4 hc4 HO3 HG3 H2
      have HK := Lib.hid (show (k : Int) - 1 = ((k - 1 : Nat) : Int) by omega)
      have HFP := Lib.hid (few_push HF.out HX.out HY.out)
      go_wp2_with (at_builtin; refine wpList_append_own _ rfl _ _ 34 rfl w.heap.size 46 i0 (.agg #[.string ⟨#[]⟩, .string ⟨#[]⟩]) 2 32 Tryd.underlying34 hi hz0 hz1 hz2 rfl (by decide) _ _ _ rfl (hown.alloc _) ⟨w4.heap.size, 0, none⟩ 1 1 [Flds.sv x, Flds.sv y] rfl rfl (Flds.news_two _ _ _ _) (Flds.two_one (x, y)) (by unfold maxLen; omega) (by omega) (by simp; omega) ?_; intro v1 w5 hown1 hg1 _)
      have R : Hid (Flds.Own w5 w.heap.size v1 (l ++ [(x, y)])) := Lib.hid (by show w5.ownsRow _ _ _ _ (l ++ [(x, y)]).length (Flds.fcs (l ++ [(x, y)])); rw [List.length_append, Flds.fcs_more]; exact hown1)
      have HS5 : Hid (Sh v1 (l ++ [(x, y)])) := Lib.hid (sh_own R.out (by simp))
      have HC5 := Lib.hid (cur_row (cur_alloc HC4.out _) hg1 (fun k e => by have := (hown.lt k e).1; omega))
      have HG5 := Lib.hid (gb_own (gb_trans HG4.out (World.grownBy_alloc _ _ _)) hg1 (fun k e => (hown.lt k e).1))
      clear hown hown1 hg1 HC4 HG4
      go_wp2
      go_roundw
      case rel => exact ⟨k - 1, l ++ [(x, y)], by rw [← HK.out], by rw [List.length_append]; simp; omega, HFP, HS5, R, HC5, HG5⟩
      case measure => simp [intOf]; omega
    · have hzi : ¬ 0 < (k : Int) := by omega
      have HE := Lib.hid (show l.length ≤ 5 by omega)
      clear hl
      go_wp2
      go_ret
      exact ⟨_, l, rfl, ⟨HE.out, HF.out⟩, HS.out, HO.out, HC.out, HG.out⟩

set_option maxHeartbeats 4000000 in
theorem fany_any (c B : Nat) (bv : Value) (w : World) (hcur : CurAt w c bv) (hby : Bytes w B bv) (hB : B ≤ c) :
    Calls Tryd.prog 40 #[.pointer (some ⟨c, 0, none⟩)] w (DrawnF c bv w) := by
  have hcw := cur_lt hcur
  go_enter Tryd.func40, Tryd.ntmps40
  go_wp2_with (fail)
  go_at_call 48
  refine (flds_any c B bv _ hcur hby hB).mono ?_
  rintro e w2 ⟨v, l, rfl, hfw, ⟨g, cp, rfl⟩, ho, hc2, hg2⟩
  have HF := Lib.hid hfw
  have HO := Lib.hid ho
  have HG := Lib.hid hg2
  have HC := Lib.hid hc2
  have hy2 := bytes_kept hby hg2 hB
  have HL := Lib.hid hfw.1
  have HGW := Lib.hid (ho.lt g rfl).1
  clear hfw ho hg2 hcur hby
  by_cases h0 : l.length = 0
  · have e0 : l = [] := List.eq_nil_of_length_eq_zero h0
    subst e0
    clear h0 hc2 hy2 HL
    go_wp2
    go_ret
    exact ⟨_, [], rfl, HF.out, ⟨g, cp, rfl⟩, HO.out, HC.out, HG.out⟩
  have hp : 0 < (l.length : Int) := by omega
  have HP : Hid (0 < l.length) := Lib.hid (by omega)
  clear h0
  go_wp2_with (fail)
  go_at_call 76
  refine (once_any c B bv 3 _ hc2 hy2 hB (by omega)).mono ?_
  rintro e w3 ⟨b, rfl, hc3, hg3⟩
  have HO3 := Lib.hid (HO.out.kept hg3 (Or.inr (fun e => by have := HGW.out; have : some g = some c := e; cases this; omega)))
  have HG3 := Lib.hid (gb_trans HG.out hg3)
  have HC3 := Lib.hid hc3
  have hy3 := bytes_kept hy2 hg3 hB
  clear hc2 hy2 hg3 HO HG HC
  cases b with
  | false =>
    clear hc3 hy3
    go_wp2
    go_ret
    exact ⟨_, l, rfl, HF.out, ⟨g, cp, rfl⟩, HO3.out, HC3.out, HG3.out⟩
  | true =>
    have H1 := str_lits c B bv fodds 4 rfl w3 hc3 hy3 hB (by decide) (by decide) 9
    clear hc3
    go_wp2_with (fail)
    go_at_call 41
    refine H1.mono ?_
    rintro e w4 ⟨x, hx, rfl, hc4, hg4⟩
    have HX := Lib.hid (fodds_len x hx)
    have HO4 := Lib.hid (HO3.out.kept hg4 (Or.inr (fun e => by have := HGW.out; have : some g = some c := e; cases this; omega)))
    have HG4 := Lib.hid (gb_trans HG3.out hg4)
    have hy4 := bytes_kept hy3 hg4 hB
    have H2 := str_lits c B bv foddv 4 rfl w4 hc4 hy4 hB (by decide) (by decide) 9
    clear hx hg4 hc4 hy3 HO3 HG3 H1 HC3 hy4
    go_wp2_with (fail)
    go_at_call 41
    refine H2.mono ?_
    rintro e w5 ⟨y, hy, rfl, hc5, hg5⟩
    have HY := Lib.hid (foddv_len y hy)
    have HO5 := Lib.hid (HO4.out.kept hg5 (Or.inr (fun e => by have := HGW.out; have : some g = some c := e; cases this; omega)))
    have HG5 := Lib.hid (gb_trans HG4.out hg5)
    have HC5 := Lib.hid hc5
    clear hy hg5 hc5 HO4 HG4 H2
    have HN : Hid (c ≠ g) := Lib.hid (by have := HGW.out; omega)
    obtain ⟨d0, d1⟩ := Flds.own_cell (g := g) HO5.out HP.out
    generalize l.getD 0 Flds.nofld = fo at d0 d1
    obtain ⟨p, q⟩ := fo
    have c0 : w5.cell? ⟨g, 0, none⟩ = some (.string ⟨p.toArray⟩) := d0
    have c1 : w5.cell? ⟨g, 1, none⟩ = some (.string ⟨q.toArray⟩) := d1
    have f0 : w5.frozen? ⟨g, 0, none⟩ = false := HO5.out.frozenAt 0
    have f1 : w5.frozen? ⟨g, 1, none⟩ = false := HO5.out.frozenAt 1
    clear d0 d1
    have HFU := Lib.hid (few_put HF.out 0 HX.out HY.out)
    have HSS : Hid (Flds.Own ((w5.setCell ⟨g, 0, none⟩ (Flds.sv x)).setCell ⟨g, 1, none⟩ (Flds.sv y)) w.heap.size (.slice (some ⟨g, 0, none⟩) l.length cp) (l.set 0 (x, y))) := Lib.hid (by
      have s1 := HO5.out.stored 0 (Flds.sv x)
      have s2 := s1.1.stored 1 (Flds.sv y)
      have s3 := Flds.fcs_set l 0 (x, y)
      show World.ownsRow _ _ _ _ _ (l.set 0 (x, y)).length (Flds.fcs (l.set 0 (x, y)))
      rw [List.length_set, ← s3]; exact s2.1)
    have HGG : Hid (w.grownBy ((w5.setCell ⟨g, 0, none⟩ (Flds.sv x)).setCell ⟨g, 1, none⟩ (Flds.sv y)) (some c)) := Lib.hid (gb_own (gb_own HG5.out (gb_set _ g 0 _) (fun k e => by cases e; exact HGW.out)) (gb_set _ g 1 _) (fun k e => by cases e; exact HGW.out))
    have HCC : Hid (CurAt ((w5.setCell ⟨g, 0, none⟩ (Flds.sv x)).setCell ⟨g, 1, none⟩ (Flds.sv y)) c bv) := Lib.hid (cur_row (cur_row HC5.out (gb_set _ g 0 _) (fun k e => by cases e; exact fun h => HN.out h.symm)) (gb_set _ g 1 _) (fun k e => by cases e; exact fun h => HN.out h.symm))
    have HLS : Hid (l.length = (l.set 0 (x, y)).length) := Lib.hid (by rw [List.length_set])
    clear HO5 HG5 HC5
    go_wp2
    go_ret
    exact ⟨.slice (some ⟨g, 0, none⟩) l.length cp, l.set 0 (x, y), rfl, HFU.out, ⟨g, cp, by rw [← HLS.out]⟩, HSS.out, HCC.out, HGG.out⟩

/-- How the laws' draws of fields end. -/
def OneF (w : World) (e : Ending) (w' : World) : Prop := ∃ (v : Value) (l : List Flds.Fld), e = .returned v ∧ Few l ∧ Flds.Own w' w.heap.size v l ∧ Below w.heap.size w w'
def TwoF (w : World) (e : Ending) (w' : World) : Prop := ∃ (v u : Value) (l m : List Flds.Fld), e = .returned (.tuple #[v, u]) ∧ Few l ∧ Few m ∧ Sh u m ∧ Flds.Own w' w.heap.size v l ∧ Flds.Own w' w.heap.size u m ∧ Below w.heap.size w w'
def OneFN (w : World) (e : Ending) (w' : World) : Prop := ∃ (v : Value) (l : List Flds.Fld) (n u : List UInt8), e = .returned (.tuple #[v, .string ⟨n.toArray⟩, .string ⟨u.toArray⟩]) ∧ Few l ∧ n.length ≤ 4 ∧ u.length ≤ 8 ∧ Flds.Own w' w.heap.size v l ∧ Below w.heap.size w w'

theorem draw_ff (B : Nat) (bv : Value) (w : World) (hby : Bytes w B bv) (hB : B ≤ w.heap.size) :
    Calls Tryd.prog 20 #[bv] w (OneF w) := by
  go_enter Tryd.func20, Tryd.ntmps20
  go_wp2_with (fail)
  go_at_call 27
  refine (new_any B bv _ hby).mono ?_
  rintro e w1 ⟨h, rfl, rfl⟩
  go_wp2_with (fail)
  go_at_call 40
  refine (fany_any w.heap.size B bv _ (made_cur bv h w) (bytes_alloc hby _) hB).mono ?_
  rintro e w2 ⟨v, l, rfl, hf, hs, ho, hc2, hg2⟩
  have HE := Lib.hid (And.intro (Flds.own_mono ho (B' := w.heap.size) (by simp)) (below_gb ((Below.refl _ _).alloc (Nat.le_refl _) _) hg2 (by simp) (Nat.le_refl _)))
  have HF := Lib.hid hf
  clear hf hs ho hc2 hg2
  go_wp2
  go_ret
  exact ⟨_, l, rfl, HF.out, HE.out.1, HE.out.2⟩

theorem draw_mf (B : Nat) (bv : Value) (w : World) (hby : Bytes w B bv) (hB : B ≤ w.heap.size) :
    Calls Tryd.prog 18 #[bv] w (TwoF w) := by
  go_enter Tryd.func18, Tryd.ntmps18
  go_wp2_with (fail)
  go_at_call 27
  refine (new_any B bv _ hby).mono ?_
  rintro e w1 ⟨h, rfl, rfl⟩
  have hy1 := bytes_alloc hby (.cells #[bv, .int .i64 0, .int .i64 h] 89)
  go_wp2_with (fail)
  go_at_call 48
  refine (flds_any w.heap.size B bv _ (made_cur bv h w) hy1 hB).mono ?_
  rintro e w2 ⟨v, l, rfl, hf, hs, ho, hc2, hg2⟩
  have hy2 := bytes_kept hy1 hg2 hB
  have HB2 := Lib.hid (below_gb ((Below.refl _ _).alloc (Nat.le_refl _) _) hg2 (by simp) (Nat.le_refl _))
  have HO2 := Lib.hid ho
  have HF := Lib.hid hf
  clear hf hs ho hg2 hy1
  go_wp2_with (fail)
  go_at_call 48
  refine (flds_any w.heap.size B bv _ hc2 hy2 hB).mono ?_
  rintro e w3 ⟨u, m, rfl, hf, hs, ho, hc3, hg3⟩
  have HO3 := Lib.hid (Flds.own_mono (HO2.out.kept hg3 (Or.inr (fun e => by have h := (HO2.out.lt _ e).1; rw [World.size_alloc] at h; omega))) (B' := w.heap.size) (by simp))
  have HU3 := Lib.hid (Flds.own_mono ho (B' := w.heap.size) HB2.out.size)
  have HB3 := Lib.hid (below_gb HB2.out hg3 HB2.out.size (Nat.le_refl _))
  have HM := Lib.hid (And.intro hf hs)
  clear hf hs ho hc2 hc3 hg3 hy2 HO2 HB2
  go_wp2
  go_ret2
  exact ⟨v, u, l, m, rfl, HF.out, HM.out.1, HM.out.2, HO3.out, HU3.out, HB3.out⟩

theorem draw_sf (B : Nat) (bv : Value) (w : World) (hby : Bytes w B bv) (hB : B ≤ w.heap.size) :
    Calls Tryd.prog 13 #[bv] w (OneFN w) := by
  go_enter Tryd.func13, Tryd.ntmps13
  go_wp2_with (fail)
  go_at_call 27
  refine (new_any B bv _ hby).mono ?_
  rintro e w1 ⟨h, rfl, rfl⟩
  have hy1 := bytes_alloc hby (.cells #[bv, .int .i64 0, .int .i64 h] 89)
  go_wp2_with (fail)
  go_at_call 40
  refine (fany_any w.heap.size B bv _ (made_cur bv h w) hy1 hB).mono ?_
  rintro e w2 ⟨v, l, rfl, hf, hs, ho, hc2, hg2⟩
  have hy2 := bytes_kept hy1 hg2 hB
  have HB2 := Lib.hid (below_gb ((Below.refl _ _).alloc (Nat.le_refl _) _) hg2 (by simp) (Nat.le_refl _))
  have HO2 := Lib.hid ho
  have HF := Lib.hid hf
  have H1 := str_lits w.heap.size B bv fasked 4 rfl w2 hc2 hy2 hB (by decide) (by decide) 9
  clear hf hs ho hg2 hy1 hc2
  go_wp2_with (fail)
  go_at_call 41
  refine H1.mono ?_
  rintro e w3 ⟨n, hn, rfl, hc3, hg3⟩
  have HN := Lib.hid (fasked_len n hn)
  have HO3 := Lib.hid (HO2.out.kept hg3 (Or.inr (fun e => by have h := (HO2.out.lt _ e).1; rw [World.size_alloc] at h; omega)))
  have HB3 := Lib.hid (below_gb HB2.out hg3 HB2.out.size (Nat.le_refl _))
  have hy3 := bytes_kept hy2 hg3 hB
  clear hn hg3 H1 hy2 HO2 HB2
  go_wp2_with (fail)
  go_at_call 42
  refine (some_any w.heap.size B bv _ hc3 hy3 hB).mono ?_
  rintro e w4 ⟨u, hu, rfl, hc4, hg4⟩
  have HU := Lib.hid hu
  have HO4 := Lib.hid (Flds.own_mono (HO3.out.kept hg4 (Or.inr (fun e => by have h := (HO3.out.lt _ e).1; rw [World.size_alloc] at h; omega))) (B' := w.heap.size) (by simp))
  have HB4 := Lib.hid (below_gb HB3.out hg4 HB3.out.size (Nat.le_refl _))
  clear hu hg4 hc3 hc4 hy3 HO3 HB3
  go_wp2
  go_ret3
  exact ⟨v, l, n, u, rfl, HF.out, HN.out, HU.out, HO4.out, HB4.out⟩
end Go.Proofs.YtobhdfkhfmpdlaaDoor.Cur
