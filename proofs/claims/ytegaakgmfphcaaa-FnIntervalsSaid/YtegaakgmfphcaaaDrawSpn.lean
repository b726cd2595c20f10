/-
  CONTRACTS of the draws of chapter 9 (l9Span, l9Set, DrawAddSpan, DrawMissingSpans, DrawUniteSpans): over any slice of bytes they answer few spans in memory of their own; nothing that was there before is changed.
-/
import Derived.Test.YtegaakgmfphcaaaCurInt
import Derived.Test.YtegaakgmfphcaaaCurNew
import Derived.Test.YtegaakgmfphcaaaCurOnce
import Derived.Test.YtegaakgmfphcaaaSpnAddS
import Derived.RegionTactic
namespace Go.Proofs.Ytegaakgmfphcaaa.Cur
open Go Go.RowKit
set_option linter.unusedVariables false
set_option maxRecDepth 1000000

/-- A span as it is drawn. -/
def Sml (s : Int × Int) : Prop := 0 ≤ s.1 ∧ s.1 ≤ 15 ∧ s.1 ≤ s.2 ∧ s.2 ≤ s.1 + 5
def DrawnP (c : Nat) (bv : Value) (w : World) (e : Ending) (w' : World) : Prop := ∃ a b : Int, Sml (a, b) ∧ e = .returned (.agg #[.int .i64 a, .int .i64 b]) ∧ CurAt w' c bv ∧ w.grownBy w' (some c)
set_option maxHeartbeats 2000000 in
theorem span_any (c B : Nat) (bv : Value) (w : World) (hcur : CurAt w c bv) (hby : Bytes w B bv) (hB : B ≤ c) :
    Calls Try.prog 18 #[.pointer (some ⟨c, 0, none⟩)] w (DrawnP c bv w) := by
  have hcl := cur_lt hcur
  have hc0 := cur_alloc hcur (.cells #[.int .i64 0, .int .i64 0] 26)
  have hy0 := bytes_alloc hby (.cells #[.int .i64 0, .int .i64 0] 26)
  have HBX := Lib.hid (box_new w (.int .i64 0) (.int .i64 0) 26)
  have HG0 : Hid (w.grownBy (w.alloc (.cells #[.int .i64 0, .int .i64 0] 26)) (some c)) := Lib.hid (World.grownBy_alloc _ _ _)
  clear hcur hby
  go_enter Try.func18, Try.ntmps18
  go_wp2_with (fail)
  go_at_call 29
  refine (below_any c B bv 16 _ hc0 hy0 hB (by omega)).mono ?_
  rintro e w2 ⟨a, ha, rfl, hc2, hg2⟩
  have hy2 := bytes_kept hy0 hg2 hB
  obtain ⟨ha0, ha1⟩ := ha
  have ha2 : a < 16 := by omega
  have HG2 := Lib.hid hg2
  clear ha1 hg2 hc0 hy0
  go_wp2_with (fail)
  go_at_call 29
  refine (below_any c B bv 6 _ hc2 hy2 hB (by omega)).mono ?_
  rintro e w3 ⟨d, hd, rfl, hc3, hg3⟩
  obtain ⟨hd0, hd1⟩ := hd
  have hd2 : d < 6 := by omega
  have hg := gb_trans HG2.out hg3
  obtain ⟨⟨x0, x1⟩, ⟨f0, f1⟩⟩ := box_far HBX.out hg (by omega)
  have HGW := Lib.hid (gb_trans HG0.out hg)
  have HC3 := Lib.hid hc3
  have HS : Hid (Sml (a, a + d)) := Lib.hid ⟨by show 0 ≤ a; omega, by show a ≤ 15; omega, by show a ≤ a + d; omega, by show a + d ≤ a + 5; omega⟩
  clear hd1 hg hg3 hc2 hc3 hy2 HBX HG0 HG2
  have hne : w.heap.size ≠ c := by omega
  go_wp2
  have HGG : Hid (w.grownBy ((w3.setCell ⟨w.heap.size, 0, none⟩ (.int .i64 a)).setCell ⟨w.heap.size, 1, none⟩ (.int .i64 (a + d))) (some c)) := Lib.hid (gb_own (gb_own HGW.out (gb_set _ w.heap.size 0 _) (fun k e => by cases e; exact Nat.le_refl _)) (gb_set _ w.heap.size 1 _) (fun k e => by cases e; exact Nat.le_refl _))
  have HCC : Hid (CurAt ((w3.setCell ⟨w.heap.size, 0, none⟩ (.int .i64 a)).setCell ⟨w.heap.size, 1, none⟩ (.int .i64 (a + d))) c bv) := Lib.hid (cur_row (cur_row HC3.out (gb_set _ w.heap.size 0 _) (fun k e => by cases e; exact hne)) (gb_set _ w.heap.size 1 _) (fun k e => by cases e; exact hne))
  refine bodyPost_ret (v := .agg #[.int .i64 a, .int .i64 (a + d)]) (by simp [results, Try.results18, go_sem, x0, x1]) rfl ⟨a, a + d, HS.out, rfl, HCC.out, HGG.out⟩

def DrawnL (c : Nat) (bv : Value) (w : World) (e : Ending) (w' : World) : Prop := ∃ (v : Value) (l : List Spn.T), e = .returned v ∧ l.length ≤ 5 ∧ Spn.Own w' w.heap.size v l ∧ CurAt w' c bv ∧ w.grownBy w' (some c)
set_option maxHeartbeats 4000000 in
theorem spans_any (c B : Nat) (bv : Value) (w : World) (hcur : CurAt w c bv) (hby : Bytes w B bv) (hB : B ≤ c) :
    Calls Try.prog 17 #[.pointer (some ⟨c, 0, none⟩)] w (DrawnL c bv w) := by
  obtain ⟨i0, hi, hz0, hz1, hz2⟩ := info_parts Spn.info_r
  have hcw := cur_lt hcur
  have hcu := cur_alloc hcur (.cells #[] 26)
  have hby1 := bytes_alloc hby (.cells #[] 26)
  have hgw : w.grownBy (w.alloc (.cells #[] 26)) (some c) := World.grownBy_alloc _ _ _
  have HO := Lib.hid (Spn.own_lit_nil w)
  clear hcur
  go_enter Try.func17, Try.ntmps17
  go_wp2_with (fail)
  go_at_call 29
  refine (below_any c B bv 5 _ hcu hby1 hB (by omega)).mono ?_
  rintro e w2 ⟨x, hx, rfl, hc2, hg2⟩
  obtain ⟨n, rfl, hn⟩ : ∃ n : Nat, x = (n : Int) ∧ n ≤ 4 := ⟨x.toNat, by have := hx.1; omega, by have := hx.1; have := hx.2; omega⟩
  have HO2 := Lib.hid (HO.out.kept hg2 (Or.inr (fun e => by have := (HO.out.lt _ e).1; omega)))
  have HI := Lib.hid (And.intro hc2 (gb_trans hgw hg2))
  have HBY := Lib.hid hby
  clear hx hc2 hg2 hby1 hby hgw hcu HO
  go_wp2
  go_loopw [3, 4] (fun u i wr => ∃ (k : Nat) (l : List Spn.T), i = .int .i64 (k : Int) ∧ l.length + k ≤ 4 ∧ Hid (Spn.Own wr w.heap.size u l) ∧ Hid (CurAt wr c bv) ∧ Hid (w.grownBy wr (some c))) (fun _ i _ => (intOf i).toNat)
  case atStart => exact ⟨n, [], rfl, by simp; omega, HO2, Lib.hid HI.out.1, Lib.hid HI.out.2⟩
  case round =>
    clear HI HO2
    obtain ⟨k, l, rfl, hl, HO, HC, HG⟩ := hrel
    by_cases hz : 0 < k
    · have hzi : 0 < (k : Int) := by omega
      have hyr := bytes_kept HBY.out HG.out hB
      go_wp2_with (fail)
      go_at_call 18
      refine (span_any c B bv wr HC.out hyr hB).mono ?_
      rintro e w3 ⟨a, b, hab, rfl, hc3, hg3⟩
      have ho3 := HO.out.kept hg3 (Or.inr (fun e => by have := (HO.out.lt _ e).1; omega))
      have HG3 := Lib.hid (gb_trans HG.out hg3)
      have HC3 := Lib.hid hc3
      have HAD := Lib.hid (Spn.spec_add u3 w3.heap.size l a b w3 (Spn.own_holds ho3) (Nat.le_refl _) (by omega))
      have HLN : Hid ((Spn.add l (a, b)).length ≤ l.length + 1) := Lib.hid (by
        unfold Spn.add
        split
        · rename_i h; rw [Bool.and_eq_true] at h; exact Spn.res_len1 h.1 h.2
        · omega)
      have hgs := HG3.out.size
      generalize Spn.add l (a, b) = m at HAD HLN
      clear hab hg3 hc3 HO HC HG hyr ho3
      have HK := Lib.hid (show (k : Int) - 1 = ((k - 1 : Nat) : Int) by omega)
      go_wp2_with (fail)
      go_at_call 30
      refine HAD.out.mono ?_
      rintro e w4 ⟨v4, rfl, ho4, hb4⟩
      have HO4 := Lib.hid (Spn.own_mono ho4 (B' := w.heap.size) hgs)
      have HC4 := Lib.hid (cur_below HC3.out hb4)
      have HG4 := Lib.hid (gb_near HG3.out hb4)
      clear ho4 hb4 HAD HC3 HG3
      go_wp2
      go_roundw
      case rel => exact ⟨k - 1, m, by rw [← HK.out], by have := HLN.out; omega, HO4, HC4, HG4⟩
      case measure => simp [intOf]; omega
    · have hzi : ¬ 0 < (k : Int) := by omega
      have HE := Lib.hid (show l.length ≤ 4 by omega)
      have hL := Spn.fcs_len l
      have hyr := bytes_kept HBY.out HG.out hB
      clear hl
      go_wp2_with (fail)
      go_at_call 19
      refine (once_any c B bv 9 _ HC.out hyr hB (by omega)).mono ?_
      rintro e w3 ⟨q, rfl, hc3, hg3⟩
      have hy3 := bytes_kept hyr hg3 hB
      have HO3 := Lib.hid (HO.out.kept hg3 (Or.inr (fun e => by have := (HO.out.lt _ e).1; omega)))
      have HG3 := Lib.hid (gb_trans HG.out hg3)
      have HC3 := Lib.hid hc3
      clear hg3 HO HC HG hyr
      cases q with
      | false =>
        clear hc3 hy3
        go_wp2
        go_ret
        exact ⟨_, l, rfl, Nat.le_trans HE.out (by decide), HO3.out, HC3.out, HG3.out⟩
      | true =>
        go_wp2_with (fail)
        go_at_call 18
        refine (span_any c B bv w3 hc3 hy3 hB).mono ?_
        rintro e w4 ⟨a, b, hab, rfl, hc4, hg4⟩
        have hown := HO3.out.kept hg4 (Or.inr (fun e => by have := (HO3.out.lt _ e).1; omega))
        have HG4 := Lib.hid (gb_trans HG3.out hg4)
        have HC4 := Lib.hid hc4
        have hsz4 := HG4.out.size
        have hle := HE.out
        clear hab hc3 hy3 hc4 hg4 HO3 HC3 HG3
        go_wp2_with (at_builtin; refine wpList_append_own _ rfl _ _ 24 rfl w.heap.size 26 i0 (.agg #[.int .i64 0, .int .i64 0]) 2 16 Try.underlying24 hi hz0 hz1 hz2 rfl (by decide) _ _ _ rfl (hown.alloc _) ⟨w4.heap.size, 0, none⟩ 1 1 [.int .i64 a, .int .i64 b] rfl rfl (Rec.news _ _ _) (Spn.cs_one (a, b)) (by unfold maxLen; omega) (by omega) (by simp; omega) ?_; intro v1 w5 hown1 hg1 _)
        have R : Hid (Spn.Own w5 w.heap.size v1 (l ++ [(a, b)])) := Lib.hid (by show w5.ownsRow _ _ _ _ (l ++ [(a, b)]).length (Spn.fcs (l ++ [(a, b)])); rw [List.length_append, Spn.fcs_more]; exact hown1)
        have HC5 := Lib.hid (cur_row (cur_alloc HC4.out _) hg1 (fun k e => by have := (hown.lt k e).1; omega))
        have HG5 := Lib.hid (gb_own (gb_trans HG4.out (World.grownBy_alloc _ _ _)) hg1 (fun k e => (hown.lt k e).1))
        clear hown hown1 hg1 HC4 HG4
        go_wp2
        go_ret
        exact ⟨_, l ++ [(a, b)], rfl, by rw [List.length_append]; simp; have := HE.out; omega, R.out, HC5.out, HG5.out⟩

/-- How the laws' draws of spans end. -/
def SpansSpan (w : World) (e : Ending) (w' : World) : Prop := ∃ (v : Value) (l : List Spn.T) (a b : Int), e = .returned (.tuple #[v, .agg #[.int .i64 a, .int .i64 b]]) ∧ l.length ≤ 5 ∧ Fits a ∧ 0 ≤ b ∧ b ≤ 20 ∧ Spn.Own w' w.heap.size v l ∧ Below w.heap.size w w'
def OneL (w : World) (e : Ending) (w' : World) : Prop := ∃ (v : Value) (l : List Spn.T), e = .returned v ∧ l.length ≤ 5 ∧ (∀ s ∈ l, Sml s) ∧ Spn.Own w' w.heap.size v l ∧ Below w.heap.size w w'

set_option maxHeartbeats 4000000 in
theorem draw_us (B : Nat) (bv : Value) (w : World) (hby : Bytes w B bv) (hB : B ≤ w.heap.size) :
    Calls Try.prog 12 #[bv] w (OneL w) := by
  obtain ⟨i0, hi, hz0, hz1, hz2⟩ := info_parts Spn.info_r
  go_enter Try.func12, Try.ntmps12
  go_wp2_with (fail)
  go_at_call 16
  refine (new_any B bv _ hby).mono ?_
  rintro e w1 ⟨h, rfl, rfl⟩
  have hcu := cur_alloc (made_cur bv h w) (.cells #[] 26)
  have hby1 := bytes_alloc (bytes_alloc hby (.cells #[bv, .int .i64 0, .int .i64 h] 46)) (.cells #[] 26)
  have hbw : Below w.heap.size w ((w.alloc (.cells #[bv, .int .i64 0, .int .i64 h] 46)).alloc (.cells #[] 26)) := ((Below.refl _ _).alloc (Nat.le_refl _) _).alloc (by simp) _
  have ho := Spn.own_lit_nil (w.alloc (.cells #[bv, .int .i64 0, .int .i64 h] 46))
  have hsz : (w.alloc (.cells #[bv, .int .i64 0, .int .i64 h] 46)).heap.size = w.heap.size + 1 := by simp
  rw [hsz] at ho
  have HO := Lib.hid ho
  clear ho hsz
  go_wp2_with (fail)
  go_at_call 29
  refine (below_any w.heap.size B bv 6 _ hcu hby1 hB (by omega)).mono ?_
  rintro e w2 ⟨x, hx, rfl, hc2, hg2⟩
  obtain ⟨n, rfl, hn⟩ : ∃ n : Nat, x = (n : Int) ∧ n ≤ 5 := ⟨x.toNat, by have := hx.1; omega, by have := hx.1; have := hx.2; omega⟩
  have HO2 := Lib.hid (HO.out.kept hg2 (Or.inr (fun e => by have := (HO.out.lt _ e).1; omega)))
  have HI := Lib.hid (And.intro hc2 (And.intro (bytes_kept hby1 hg2 hB) (below_gb hbw hg2 hbw.size (Nat.le_refl _))))
  clear hx hc2 hg2 hby1 hbw hcu HO
  go_wp2
  go_loopw [4, 5] (fun u i wr => ∃ (k : Nat) (l : List Spn.T), i = .int .i64 (k : Int) ∧ l.length + k ≤ 5 ∧ Hid (∀ s ∈ l, Sml s) ∧ Hid (Spn.Own wr (w.heap.size + 1) u l) ∧ Hid (CurAt wr w.heap.size bv) ∧ Hid (Bytes wr B bv) ∧ Hid (Below w.heap.size w wr)) (fun _ i _ => (intOf i).toNat)
  case atStart => exact ⟨n, [], rfl, by simp; omega, Lib.hid (fun s hs => by cases hs), HO2, Lib.hid HI.out.1, Lib.hid HI.out.2.1, Lib.hid HI.out.2.2⟩
  case round =>
    clear HI HO2
    obtain ⟨k, l, rfl, hl, HS, HO, HC, HY, HB⟩ := hrel
    by_cases hz : 0 < k
    · have hzi : 0 < (k : Int) := by omega
      have hL := Spn.fcs_len l
      go_wp2_with (fail)
      go_at_call 18
      refine (span_any w.heap.size B bv wr HC.out HY.out hB).mono ?_
      rintro e w3 ⟨a, b, hab, rfl, hc3, hg3⟩
      have hown := HO.out.kept hg3 (Or.inr (fun e => by have := (HO.out.lt _ e).1; omega))
      have HB3 := Lib.hid (below_gb HB.out hg3 HB.out.size (Nat.le_refl _))
      have HY3 := Lib.hid (bytes_kept HY.out hg3 hB)
      have HC3 := Lib.hid hc3
      have HS3 : Hid (∀ s ∈ l ++ [(a, b)], Sml s) := Lib.hid (fun s hs => by
        rcases List.mem_append.1 hs with hs | hs
        · exact HS.out s hs
        · rw [List.mem_singleton] at hs; subst hs; exact hab)
      have hbs3 := HB3.out.size
      clear hab hg3 hc3 HO HC HY HB HS
      have HK := Lib.hid (show (k : Int) - 1 = ((k - 1 : Nat) : Int) by omega)
      go_wp2_with (at_builtin; refine wpList_append_own _ rfl _ _ 24 rfl (w.heap.size + 1) 26 i0 (.agg #[.int .i64 0, .int .i64 0]) 2 16 Try.underlying24 hi hz0 hz1 hz2 rfl (by decide) _ _ _ rfl (hown.alloc _) ⟨w3.heap.size, 0, none⟩ 1 1 [.int .i64 a, .int .i64 b] rfl rfl (Rec.news _ _ _) (Spn.cs_one (a, b)) (by unfold maxLen; omega) (by omega) (by simp; omega) ?_; intro v1 w4 hown1 hg1 _)
      have R := Lib.hid (Spn.push_own (a := w) (f := (a, b)) hown HB3.out (by omega) hown1 hg1)
      have HC4 := Lib.hid (cur_row (cur_alloc HC3.out _) hg1 (fun k e => by have := (hown.lt k e).1; omega))
      have HY4 := Lib.hid (bytes_row (bytes_alloc HY3.out _) hg1 (fun k e => by have := (hown.lt k e).1; omega))
      clear hown hown1 hg1 HC3 HY3 HB3
      go_wp2
      go_roundw
      case rel => exact ⟨k - 1, l ++ [(a, b)], by rw [← HK.out], by rw [List.length_append]; simp; omega, HS3, Lib.hid R.out.1, HC4, HY4, Lib.hid R.out.2⟩
      case measure => simp [intOf]; omega
    · have hzi : ¬ 0 < (k : Int) := by omega
      have HE := Lib.hid (And.intro (show l.length ≤ 5 by omega) (Spn.own_mono HO.out (B' := w.heap.size) (by omega)))
      clear hl HO
      go_wp2
      go_ret
      exact ⟨_, l, rfl, HE.out.1, HS.out, HE.out.2, HB.out⟩

set_option maxHeartbeats 4000000 in
theorem draw_ms (B : Nat) (bv : Value) (w : World) (hby : Bytes w B bv) (hB : B ≤ w.heap.size) :
    Calls Try.prog 7 #[bv] w (SpansSpan w) := by
  have hy0 := bytes_alloc hby (.cells #[.int .i64 0, .int .i64 0] 26)
  have hbx := box_new w (.int .i64 0) (.int .i64 0) 26
  have hbw : Below w.heap.size w (w.alloc (.cells #[.int .i64 0, .int .i64 0] 26)) := (Below.refl _ _).alloc (Nat.le_refl _) _
  have hsz : (w.alloc (.cells #[.int .i64 0, .int .i64 0] 26)).heap.size = w.heap.size + 1 := by simp
  have HMC := Lib.hid (fun h => made_cur bv h (w.alloc (.cells #[.int .i64 0, .int .i64 0] 26)))
  rw [hsz] at HMC
  have HBX := Lib.hid hbx
  have HBW := Lib.hid hbw
  clear hbx hbw
  go_enter Try.func7, Try.ntmps7
  go_wp2_with (fail)
  go_at_call 16
  refine (new_any B bv _ hy0).mono ?_
  rintro e w1 ⟨h, rfl, rfl⟩
  have hcu := HMC.out h
  have hby1 := bytes_alloc hy0 (.cells #[bv, .int .i64 0, .int .i64 h] 46)
  have HB1 := Lib.hid (HBW.out.alloc (by rw [hsz]; omega) (.cells #[bv, .int .i64 0, .int .i64 h] 46))
  have HX1 := Lib.hid ((Below.heap_alloc _ (.cells #[bv, .int .i64 0, .int .i64 h] 46) _ (show w.heap.size < (w.alloc (.cells #[.int .i64 0, .int .i64 0] 26)).heap.size by rw [hsz]; omega)).trans HBX.out)
  have hs1 : ((w.alloc (.cells #[.int .i64 0, .int .i64 0] 26)).alloc (.cells #[bv, .int .i64 0, .int .i64 h] 46)).heap.size = w.heap.size + 2 := by simp
  clear hy0 HMC HBX HBW
  go_wp2_with (fail)
  go_at_call 17
  refine (spans_any (w.heap.size + 1) B bv _ hcu hby1 (by omega)).mono ?_
  rintro e w2 ⟨v, l, rfl, hl, ho, hc2, hg2⟩
  rw [hs1] at ho
  have hy2 := bytes_kept hby1 hg2 (by omega)
  have HG2 := Lib.hid hg2
  have HL := Lib.hid hl
  have HO2 := Lib.hid ho
  clear hcu hby1 hg2 hl ho
  go_wp2_with (fail)
  go_at_call 18
  refine (span_any (w.heap.size + 1) B bv _ hc2 hy2 (by omega)).mono ?_
  rintro e w3 ⟨a, b, hab, rfl, hc3, hg3⟩
  have hg := gb_trans HG2.out hg3
  obtain ⟨⟨x0, x1⟩, ⟨f0, f1⟩⟩ := box_far HX1.out hg (by omega)
  have HB3 := Lib.hid (below_gb HB1.out hg HB1.out.size (by omega))
  have HO3 := Lib.hid (HO2.out.kept hg3 (Or.inr (fun e => by have := (HO2.out.lt _ e).1; omega)))
  have HAB := Lib.hid hab
  clear hab hc2 hc3 hg3 hg hy2 HG2 HO2
  go_wp2
  have HOO := Lib.hid (Spn.own_mono (Spn.own_put HO3.out (show w.heap.size < w.heap.size + 2 by omega) a b) (B' := w.heap.size) (by omega))
  refine bodyPost_ret (v := .tuple #[v, .agg #[.int .i64 a, .int .i64 b]]) (by simp [results, Try.results7, go_sem, x0, x1]) rfl ⟨v, l, a, b, rfl, HL.out, ?_, ?_, ?_, HOO.out, Below.setCell (Below.setCell HB3.out (Nat.le_refl _) _) (Nat.le_refl _) _⟩
  · obtain ⟨h1, h2, h3, h4⟩ := HAB.out; exact ⟨by omega, by omega⟩
  · obtain ⟨h1, h2, h3, h4⟩ := HAB.out; dsimp only at h1 h2 h3 h4; omega
  · obtain ⟨h1, h2, h3, h4⟩ := HAB.out; dsimp only at h1 h2 h3 h4; omega
set_option maxHeartbeats 4000000 in
theorem draw_as (B : Nat) (bv : Value) (w : World) (hby : Bytes w B bv) (hB : B ≤ w.heap.size) :
    Calls Try.prog 5 #[bv] w (SpansSpan w) := by
  have hy0 := bytes_alloc hby (.cells #[.int .i64 0, .int .i64 0] 26)
  have hbx := box_new w (.int .i64 0) (.int .i64 0) 26
  have hbw : Below w.heap.size w (w.alloc (.cells #[.int .i64 0, .int .i64 0] 26)) := (Below.refl _ _).alloc (Nat.le_refl _) _
  have hsz : (w.alloc (.cells #[.int .i64 0, .int .i64 0] 26)).heap.size = w.heap.size + 1 := by simp
  have HMC := Lib.hid (fun h => made_cur bv h (w.alloc (.cells #[.int .i64 0, .int .i64 0] 26)))
  rw [hsz] at HMC
  have HBX := Lib.hid hbx
  have HBW := Lib.hid hbw
  clear hbx hbw
  go_enter Try.func5, Try.ntmps5
  go_wp2_with (fail)
  go_at_call 16
  refine (new_any B bv _ hy0).mono ?_
  rintro e w1 ⟨h, rfl, rfl⟩
  have hcu := HMC.out h
  have hby1 := bytes_alloc hy0 (.cells #[bv, .int .i64 0, .int .i64 h] 46)
  have HB1 := Lib.hid (HBW.out.alloc (by rw [hsz]; omega) (.cells #[bv, .int .i64 0, .int .i64 h] 46))
  have HX1 := Lib.hid ((Below.heap_alloc _ (.cells #[bv, .int .i64 0, .int .i64 h] 46) _ (show w.heap.size < (w.alloc (.cells #[.int .i64 0, .int .i64 0] 26)).heap.size by rw [hsz]; omega)).trans HBX.out)
  have hs1 : ((w.alloc (.cells #[.int .i64 0, .int .i64 0] 26)).alloc (.cells #[bv, .int .i64 0, .int .i64 h] 46)).heap.size = w.heap.size + 2 := by simp
  clear hy0 HMC HBX HBW
  go_wp2_with (fail)
  go_at_call 17
  refine (spans_any (w.heap.size + 1) B bv _ hcu hby1 (by omega)).mono ?_
  rintro e w2 ⟨v, l, rfl, hl, ho, hc2, hg2⟩
  rw [hs1] at ho
  have hy2 := bytes_kept hby1 hg2 (by omega)
  have HG2 := Lib.hid hg2
  have HL := Lib.hid hl
  have HO2 := Lib.hid ho
  clear hcu hby1 hg2 hl ho
  go_wp2_with (fail)
  go_at_call 18
  refine (span_any (w.heap.size + 1) B bv _ hc2 hy2 (by omega)).mono ?_
  rintro e w3 ⟨a, b, hab, rfl, hc3, hg3⟩
  have hga := World.grownBy_alloc w3 (.cells #[.int .i64 a, .int .i64 b] 26) (some (w.heap.size + 1))
  have hs3 : w.heap.size + 2 ≤ w3.heap.size := by have h1 := HG2.out.size; have h2 := hg3.size; rw [hs1] at h1; omega
  have hg := gb_trans (gb_trans HG2.out hg3) hga
  have hyb := bytes_kept hy2 hg3 (by omega)
  have hca := cur_alloc hc3 (.cells #[.int .i64 a, .int .i64 b] 26)
  have hya := bytes_alloc hyb (.cells #[.int .i64 a, .int .i64 b] 26)
  have hk3 := HO2.out.kept hg3 (Or.inr (fun e => by have := (HO2.out.lt _ e).1; omega))
  have HLT : Hid (∀ k, v.ownBlock = some k → k < w3.heap.size) := Lib.hid (fun k e => (hk3.lt k e).2)
  have HO3 := Lib.hid (hk3.alloc (.cells #[.int .i64 a, .int .i64 b] 26))
  clear hk3
  have HV3 := Lib.hid (box_new w3 (.int .i64 a) (.int .i64 b) 26)
  have HG3 := Lib.hid hg
  have HAB := Lib.hid hab
  clear hab hc2 hc3 hg3 hg hy2 HG2 HO2 hga hyb
  go_wp2_with (fail)
  go_at_call 19
  refine (once_any (w.heap.size + 1) B bv 9 _ hca hya (by omega) (by omega)).mono ?_
  rintro e w4 ⟨b9, rfl, hc4, hg4⟩
  have hy4 := bytes_kept hya hg4 (by omega)
  have HO4 := Lib.hid (HO3.out.kept hg4 (Or.inr (fun e => by have := (HO3.out.lt _ e).1; omega)))
  have HG4 := Lib.hid (gb_trans HG3.out hg4)
  obtain ⟨⟨y0, y1⟩, ⟨g0, g1⟩⟩ := box_far HV3.out hg4 (by omega)
  clear hca hya HO3
  cases b9 with
  | false =>
    obtain ⟨⟨x0, x1⟩, ⟨f0, f1⟩⟩ := box_far HX1.out HG4.out (by omega)
    have HB4 := Lib.hid (below_gb HB1.out HG4.out HB1.out.size (by omega))
    clear hc4 hy4 hg4
    go_wp2
    go_region
    go_wp2
    have HOO := Lib.hid (Spn.own_mono (Spn.own_put HO4.out (show w.heap.size < w.heap.size + 2 by omega) a b) (B' := w.heap.size) (by omega))
    refine bodyPost_ret (v := .tuple #[v, .agg #[.int .i64 a, .int .i64 b]]) (by simp [results, Try.results5, go_sem, x0, x1]) rfl ⟨v, l, a, b, rfl, HL.out, ?_, ?_, ?_, HOO.out, Below.setCell (Below.setCell (Rec.below_drew HB4.out) (Nat.le_refl _) _) (Nat.le_refl _) _⟩
    · obtain ⟨h1, h2, h3, h4⟩ := HAB.out; exact ⟨by omega, by omega⟩
    · obtain ⟨h1, h2, h3, h4⟩ := HAB.out; dsimp only at h1 h2 h3 h4; omega
    · obtain ⟨h1, h2, h3, h4⟩ := HAB.out; dsimp only at h1 h2 h3 h4; omega
  | true =>
    clear y0 y1 g0 g1
    go_wp2_with (fail)
    go_at_call 20
    refine (odd_any (w.heap.size + 1) B bv w4 hc4 hy4 (by omega)).mono ?_
    rintro e w5 ⟨z, hz, rfl, hc5, hg5⟩
    have HO5 := Lib.hid (HO4.out.kept hg5 (Or.inr (fun e => by have := (HO4.out.lt _ e).1; omega)))
    have HG5 := Lib.hid (gb_trans HG4.out hg5)
    obtain ⟨⟨x0, x1⟩, ⟨f0, f1⟩⟩ := box_far HX1.out HG5.out (by omega)
    obtain ⟨⟨y0, y1⟩, ⟨g0, g1⟩⟩ := box_far HV3.out (gb_trans hg4 hg5) (by omega)
    have HB5 := Lib.hid (below_gb HB1.out HG5.out HB1.out.size (by omega))
    have HZ := Lib.hid hz
    have HO6 := Lib.hid (HO5.out.kept (gb_set w5 w3.heap.size 0 (.int .i64 z)) (Or.inr (fun e => by have := HLT.out _ e; omega)))
    have HB6 := Lib.hid (Below.setCell HB5.out (p := ⟨w3.heap.size, 0, none⟩) (show w.heap.size ≤ w3.heap.size by omega) (.int .i64 z))
    have hne : w.heap.size ≠ w3.heap.size := by omega
    clear hc4 hy4 hg4 hc5 hg5 hz HO4
    go_wp2
    go_region
    go_wp2
    have HOO := Lib.hid (Spn.own_mono (Spn.own_put HO6.out (show w.heap.size < w.heap.size + 2 by omega) z b) (B' := w.heap.size) (by omega))
    refine bodyPost_ret (v := .tuple #[v, .agg #[.int .i64 z, .int .i64 b]]) (by simp [results, Try.results5, go_sem, x0, x1]) rfl ⟨v, l, z, b, rfl, HL.out, HZ.out, ?_, ?_, HOO.out, Below.setCell (Below.setCell (Rec.below_drew HB6.out) (Nat.le_refl _) _) (Nat.le_refl _) _⟩
    · obtain ⟨h1, h2, h3, h4⟩ := HAB.out; dsimp only at h1 h2 h3 h4; omega
    · obtain ⟨h1, h2, h3, h4⟩ := HAB.out; dsimp only at h1 h2 h3 h4; omega
end Go.Proofs.Ytegaakgmfphcaaa.Cur
