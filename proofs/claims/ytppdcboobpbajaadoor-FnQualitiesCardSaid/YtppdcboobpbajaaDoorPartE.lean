/-
  CONTRACTS AND PLAIN FACTS, several texts in one; each says in its own words what it proves.
-/
import Derived.Test.YtppdcboobpbajaaDoorPartA
import Derived.Test.YtppdcboobpbajaaDoorPartB
import Derived.Test.YtppdcboobpbajaaDoorPartC
import Derived.Test.YtppdcboobpbajaaDoorPartD
set_option linter.unusedSimpArgs false
set_option linter.unusedVariables false

/-
  CONTRACTS of the draws of chapter 13 (l13Text, DrawParseQualities, DrawChooseName): over any slice of bytes they answer texts of a bounded length, and few names; nothing that was there before is changed.
-/
namespace Go.Proofs.YtppdcboobpbajaaDoor.Cur
open Go Go.RowKit
set_option linter.unusedVariables false
set_option maxRecDepth 1000000

/-- How a law's draw of a text ends. -/
def OneTxt (m : Nat) (w : World) (e : Ending) (w' : World) : Prop := ∃ x : List UInt8, x.length ≤ m ∧ e = .returned (.string ⟨x.toArray⟩) ∧ Below w.heap.size w w'
theorem cur_row {w w' : World} {c : Nat} {bv : Value} {row : Option Nat} (h : CurAt w c bv) (hg : w.grownBy w' row) (hne : ∀ k, row = some k → k ≠ c) : CurAt w' c bv := by
  obtain ⟨i, k, h0, hb⟩ := h
  exact ⟨i, k, h0, by rw [hg.block c (lt_of_block hb) (fun e => hne c e.symm rfl)]; exact hb⟩
theorem bytes_row {w w' : World} {B : Nat} {bv : Value} {row : Option Nat} (h : Bytes w B bv) (hg : w.grownBy w' row) (hne : ∀ k, row = some k → B ≤ k) : Bytes w' B bv := by
  rcases h with h | ⟨b, off, len, cap, f, h1, h2, h3, h4, h5⟩
  · exact Or.inl h
  · refine Or.inr ⟨b, off, len, cap, f, h1, h2, Nat.lt_of_lt_of_le h3 hg.size, h4, fun j hj => ⟨(h5 j hj).1, (h5 j hj).2.1, ?_⟩⟩
    exact hg.cell (h5 j hj).2.2 (fun e => by have := hne b e.symm; omega)
def qnames : List (List UInt8) := [[100, 101], [101, 110], [102, 114], [42], [68, 69], [120, 32, 121], []]
theorem qnames_len (x : List UInt8) (h : x ∈ qnames) : x.length ≤ 3 := by
  have hall : qnames.all (fun x => decide (x.length ≤ 3)) = true := by decide
  have := List.all_eq_true.1 hall x h
  simpa using this
def qwgts : List (List UInt8) := [[], [59, 113, 61, 48, 46, 53], [59, 32, 113, 61, 49], [59, 113, 61, 48], [59, 81, 61, 48, 46, 50, 53], [59, 113, 61, 49, 46, 53], [59, 113, 61, 48, 46, 49, 50, 51, 52], [59, 120, 61, 49], [59, 113, 61, 49, 46, 48, 48, 48], [59, 113, 61, 48, 46], [59, 113, 61, 48, 46, 53, 59, 122]]
theorem qwgts_len (x : List UInt8) (h : x ∈ qwgts) : x.length ≤ 9 := by
  have hall : qwgts.all (fun x => decide (x.length ≤ 9)) = true := by decide
  have := List.all_eq_true.1 hall x h
  simpa using this
def qseps : List (List UInt8) := [[44], [44, 32]]
theorem qseps_len (x : List UInt8) (h : x ∈ qseps) : x.length ≤ 2 := by
  have hall : qseps.all (fun x => decide (x.length ≤ 2)) = true := by decide
  have := List.all_eq_true.1 hall x h
  simpa using this
def qlangs : List (List UInt8) := [[100, 101], [101, 110], [102, 114]]
theorem qlangs_len (x : List UInt8) (h : x ∈ qlangs) : x.length ≤ 2 := by
  have hall : qlangs.all (fun x => decide (x.length ≤ 2)) = true := by decide
  have := List.all_eq_true.1 hall x h
  simpa using this

set_option maxHeartbeats 2000000 in
theorem text13 (c B : Nat) (bv : Value) (w : World) (hcur : CurAt w c bv) (hby : Bytes w B bv) (hB : B ≤ c) :
    Calls Tryd.prog 14 #[.pointer (some ⟨c, 0, none⟩)] w (DrawnS (fun x => x.length ≤ 48) c bv w) := by
  go_enter Tryd.func14, Tryd.ntmps14
  go_wp2_with (fail)
  go_at_call 16
  refine (below_any c B bv 4 _ hcur hby hB (by omega)).mono ?_
  rintro e w2 ⟨x, hx, rfl, hc2, hg2⟩
  obtain ⟨n, rfl, hn⟩ : ∃ n : Nat, x = (n : Int) ∧ n ≤ 3 := ⟨x.toNat, by have := hx.1; omega, by have := hx.1; have := hx.2; omega⟩
  have HI := Lib.hid (And.intro hc2 hg2)
  have HBY := Lib.hid hby
  clear hx hc2 hg2 hby hcur
  go_wp2
  go_loopw [3, 4] (fun s i wr => ∃ (k : Nat) (l : List UInt8), i = .int .i64 (k : Int) ∧ s = .string ⟨l.toArray⟩ ∧ l.length + 16 * k ≤ 48 ∧ CurAt wr c bv ∧ w.grownBy wr (some c)) (fun _ i _ => (intOf i).toNat)
  case atStart => exact ⟨n, [], rfl, rfl, by simp; omega, HI.out.1, HI.out.2⟩
  case round =>
    clear HI
    obtain ⟨k, l, rfl, rfl, hl, hcu, hg⟩ := hrel
    by_cases hz : 0 < k
    · have hzi : 0 < (k : Int) := by omega
      have hby2 := bytes_kept HBY.out hg hB
      have HG := Lib.hid hg
      clear hg
      have H1 := str_lits c B bv qnames 7 rfl wr hcu hby2 hB (by decide) (by decide) 9
      go_wp2_with (fail)
      go_at_call 17
      refine H1.mono ?_
      rintro e w3 ⟨x, hx, rfl, hc3, hg3⟩
      have hx8 := qnames_len x hx
      have hby3 := bytes_kept hby2 hg3 hB
      have HG3 := Lib.hid (gb_trans HG.out hg3)
      have hadd1 := Tx.addtwo l x (by omega)
      have hxl : (l ++ x).length ≤ l.length + 3 := by rw [List.length_append]; omega
      generalize l ++ x = lx at hadd1 hxl
      have H2 := str_lits c B bv qwgts 11 rfl w3 hc3 hby3 hB (by decide) (by decide) 9
      clear hx hg3 hcu hby2 H1 HG
      go_wp2_with (fail)
      go_at_call 17
      refine H2.mono ?_
      rintro e w4 ⟨y, hy, rfl, hc4, hg4⟩
      have hy8 := qwgts_len y hy
      have hby4 := bytes_kept hby3 hg4 hB
      have HG4 := Lib.hid (gb_trans HG3.out hg4)
      have hadd2 := Tx.addtwo lx y (by omega)
      have hyl : (lx ++ y).length ≤ l.length + 12 := by rw [List.length_append]; omega
      generalize lx ++ y = ly at hadd2 hyl
      have H3 := str_lits c B bv qseps 2 rfl w4 hc4 hby4 hB (by decide) (by decide) 9
      clear hy hg4 hc3 hby3 H2 HG3
      go_wp2_with (fail)
      go_at_call 17
      refine H3.mono ?_
      rintro e w5 ⟨z, hz', rfl, hc5, hg5⟩
      have hz8 := qseps_len z hz'
      have hadd3 := Tx.addtwo ly z (by omega)
      have HE := Lib.hid (And.intro (show (ly ++ z).length + 16 * (k - 1) ≤ 48 by rw [List.length_append]; omega) (And.intro hc5 (gb_trans HG4.out hg5)))
      have HK := Lib.hid (show (k : Int) - 1 = ((k - 1 : Nat) : Int) by omega)
      clear hz' hc4 hby4 hc5 hg5 H3 HG4 hx8 hy8 hz8 hxl hyl
      go_wp2
      go_roundw
      case rel => exact ⟨k - 1, ly ++ z, by rw [← HK.out], by simp, HE.out.1, HE.out.2.1, HE.out.2.2⟩
      case measure => simp [intOf]; omega
    · have hzi : ¬ 0 < (k : Int) := by omega
      have HE := Lib.hid (And.intro (show l.length ≤ 48 by omega) (And.intro hcu hg))
      clear hcu hg hl
      go_wp2
      go_ret
      exact ⟨_, HE.out.1, rfl, HE.out.2.1, HE.out.2.2⟩

theorem draw_pq (B : Nat) (bv : Value) (w : World) (hby : Bytes w B bv) (hB : B ≤ w.heap.size) :
    Calls Tryd.prog 6 #[bv] w (OneTxt 48 w) := by
  go_enter Tryd.func6, Tryd.ntmps6
  go_wp2_with (fail)
  go_at_call 13
  refine (new_any B bv _ hby).mono ?_
  rintro e w1 ⟨h, rfl, rfl⟩
  go_wp2_with (fail)
  go_at_call 14
  refine (text13 w.heap.size B bv _ (made_cur bv h w) (bytes_alloc hby _) hB).mono ?_
  rintro e w2 ⟨x, hx, rfl, hc2, hg2⟩
  have HE := Lib.hid (And.intro hx (below_gb ((Below.refl _ _).alloc (Nat.le_refl _) _) hg2 (by simp) (Nat.le_refl _)))
  clear hx hc2 hg2
  go_wp2
  go_ret
  exact ⟨_, HE.out.1, rfl, HE.out.2⟩

/-- How DrawChooseName ends. -/
def NamesText (w : World) (e : Ending) (w' : World) : Prop := ∃ (v : Value) (zs : List (List UInt8)) (x : List UInt8), e = .returned (.tuple #[v, .string ⟨x.toArray⟩]) ∧ zs.length ≤ 3 ∧ x.length ≤ 48 ∧ Strs.Own w' w.heap.size v zs ∧ Below w.heap.size w w'
set_option maxHeartbeats 2000000 in
theorem draw_cn (B : Nat) (bv : Value) (w : World) (hby : Bytes w B bv) (hB : B ≤ w.heap.size) :
    Calls Tryd.prog 8 #[bv] w (NamesText w) := by
  obtain ⟨i0, hi, hz0, hz1, hz2⟩ := info_parts Strs.info_str
  go_enter Tryd.func8, Tryd.ntmps8
  go_wp2_with (fail)
  go_at_call 13
  refine (new_any B bv _ hby).mono ?_
  rintro e w1 ⟨h, rfl, rfl⟩
  have hcu := cur_alloc (made_cur bv h w) (.cells #[] 9)
  have hby1 := bytes_alloc (bytes_alloc hby (.cells #[bv, .int .i64 0, .int .i64 h] 53)) (.cells #[] 9)
  have hbw : Below w.heap.size w ((w.alloc (.cells #[bv, .int .i64 0, .int .i64 h] 53)).alloc (.cells #[] 9)) := ((Below.refl _ _).alloc (Nat.le_refl _) _).alloc (by simp) _
  have ho := Strs.own_lit_nil (w.alloc (.cells #[bv, .int .i64 0, .int .i64 h] 53))
  have hsz : (w.alloc (.cells #[bv, .int .i64 0, .int .i64 h] 53)).heap.size = w.heap.size + 1 := by simp
  rw [hsz] at ho
  have HO := Lib.hid ho
  clear ho hsz
  go_wp2_with (fail)
  go_at_call 16
  refine (below_any w.heap.size B bv 4 _ hcu hby1 hB (by omega)).mono ?_
  rintro e w2 ⟨x, hx, rfl, hc2, hg2⟩
  obtain ⟨n, rfl, hn⟩ : ∃ n : Nat, x = (n : Int) ∧ n ≤ 3 := ⟨x.toNat, by have := hx.1; omega, by have := hx.1; have := hx.2; omega⟩
  have HO2 := Lib.hid (HO.out.kept hg2 (Or.inr (fun e => by have := (HO.out.lt _ e).1; omega)))
  have HI := Lib.hid (And.intro hc2 (And.intro (bytes_kept hby1 hg2 hB) (below_gb hbw hg2 hbw.size (Nat.le_refl _))))
  clear hx hc2 hg2 hby1 hbw hcu HO
  go_wp2
  go_loopw [5, 6] (fun u i wr => ∃ (k : Nat) (zs : List (List UInt8)), i = .int .i64 (k : Int) ∧ zs.length + k ≤ 3 ∧ Hid (Strs.Own wr (w.heap.size + 1) u zs) ∧ Hid (CurAt wr w.heap.size bv) ∧ Hid (Bytes wr B bv) ∧ Hid (Below w.heap.size w wr)) (fun _ i _ => (intOf i).toNat)
  case atStart => exact ⟨n, [], rfl, by simp; omega, HO2, Lib.hid HI.out.1, Lib.hid HI.out.2.1, Lib.hid HI.out.2.2⟩
  case round =>
    clear HI HO2
    obtain ⟨k, zs, rfl, hl, HO, HC, HY, HB⟩ := hrel
    by_cases hz : 0 < k
    · have hzi : 0 < (k : Int) := by omega
      have H1 := str_lits w.heap.size B bv qlangs 3 rfl wr HC.out HY.out hB (by decide) (by decide) 9
      have hL := Strs.svs_len zs
      go_wp2_with (fail)
      go_at_call 17
      refine H1.mono ?_
      rintro e w3 ⟨x, hx, rfl, hc3, hg3⟩
      have hown := HO.out.kept hg3 (Or.inr (fun e => by have := (HO.out.lt _ e).1; omega))
      have HB3 := Lib.hid (below_gb HB.out hg3 HB.out.size (Nat.le_refl _))
      have HY3 := Lib.hid (bytes_kept HY.out hg3 hB)
      have HC3 := Lib.hid hc3
      clear hx hg3 hc3 HO HC HY HB H1
      have HK := Lib.hid (show (k : Int) - 1 = ((k - 1 : Nat) : Int) by omega)
      go_wp2_with (at_builtin; refine wpList_append_own _ rfl _ _ 30 rfl (w.heap.size + 1) 9 i0 (.string ⟨#[]⟩) 1 16 Tryd.underlying30 hi hz0 hz1 hz2 rfl (by decide) _ _ _ rfl (hown.alloc _) ⟨w3.heap.size, 0, none⟩ 1 1 [.string ⟨x.toArray⟩] rfl rfl (Strs.news_one _ _ _) (Strs.sv_one x) (by unfold maxLen; omega) (by omega) (by have := HB3.out.size; simp; omega) ?_; intro v1 w4 hown1 hg1 _)
      have R := Lib.hid (Strs.push_own (a := w) (x := x) hown HB3.out (by omega) hown1 hg1)
      have HC4 := Lib.hid (cur_row (cur_alloc HC3.out _) hg1 (fun k e => by have := (hown.lt k e).1; omega))
      have HY4 := Lib.hid (bytes_row (bytes_alloc HY3.out _) hg1 (fun k e => by have := (hown.lt k e).1; omega))
      clear hown hown1 hg1 HC3 HY3 HB3
      go_wp2
      go_roundw
      case rel => exact ⟨k - 1, zs ++ [x], by rw [← HK.out], by rw [List.length_append]; simp; omega, Lib.hid R.out.1, HC4, HY4, Lib.hid R.out.2⟩
      case measure => simp [intOf]; omega
    · have hzi : ¬ 0 < (k : Int) := by omega
      have HE := Lib.hid (show zs.length ≤ 3 by omega)
      clear hl
      go_wp2_with (fail)
      go_at_call 14
      refine (text13 w.heap.size B bv _ HC.out HY.out hB).mono ?_
      rintro e w3 ⟨x, hx, rfl, hc3, hg3⟩
      have HX := Lib.hid hx
      have HO3 := Lib.hid (Rec.own_mono (B' := w.heap.size) (HO.out.kept hg3 (Or.inr (fun e => by have := (HO.out.lt _ e).1; omega))) (by omega))
      have HB3 := Lib.hid (below_gb HB.out hg3 HB.out.size (Nat.le_refl _))
      clear hx hc3 hg3 HO HC HY HB
      go_wp2
      go_ret2
      exact ⟨_, zs, x, rfl, HE.out, HX.out, HO3.out, HB3.out⟩
end Go.Proofs.YtppdcboobpbajaaDoor.Cur

/-
  PLAIN FACTS on slices of Directive (written by rec.py): what a slice holds, how that is kept, and how a slice that the call itself has built is such a one.
-/
namespace Go.Proofs.YtppdcboobpbajaaDoor.Dir
open Go Go.RowKit
set_option linter.unusedVariables false
set_option maxRecDepth 1000000

abbrev T : Type := List UInt8 × List UInt8 × Bool
def nov : T := ([], [], false)
def cs (f : T) : List Value := [.string ⟨(f.1).toArray⟩, .string ⟨(f.2.1).toArray⟩, .bool (f.2.2)]
def fv (f : T) : Value := .agg #[.string ⟨(f.1).toArray⟩, .string ⟨(f.2.1).toArray⟩, .bool (f.2.2)]
theorem cs_len (f : T) : (cs f).length = 3 := rfl
theorem cs_one (f : T) : ∀ u ∈ cs f, u.oneCell' = true := by
  intro u hu; simp [cs] at hu; rcases hu with rfl | rfl | rfl <;> rfl
def fcs (l : List T) : List Value := Rec.flat cs l
theorem fcs_len (l : List T) : (fcs l).length = l.length * 3 := Rec.flat_len cs_len l
theorem fcs_more (l : List T) (f : T) : fcs (l ++ [f]) = fcs l ++ [.string ⟨(f.1).toArray⟩, .string ⟨(f.2.1).toArray⟩, .bool (f.2.2)] := Rec.flat_more l f
theorem fcs_one (l : List T) : ∀ u ∈ fcs l, u.oneCell' = true := Rec.flat_one cs_one l
theorem fcs_put {l : List T} {k : Nat} (f : T) (h : k < l.length) : (((fcs l).set (k * 3) (.string ⟨(f.1).toArray⟩)).set (k * 3 + 1) (.string ⟨(f.2.1).toArray⟩)).set (k * 3 + 2) (.bool (f.2.2)) = fcs (l.set k f) := Rec.flat_put cs_len f h
def Ok (f : T) : Prop := f.1.length ≤ maxLen ∧ f.2.1.length ≤ maxLen
/-- The cells from (b, off) on are these. -/
def At (w : World) (b off : Nat) (l : List T) : Prop := Rec.At 3 cs nov w b off l
/-- The slice v reads as l; its cells lie below block B. -/
def Holds (w : World) (B : Nat) (v : Value) (l : List T) : Prop := Rec.Holds 3 cs nov w B v l
theorem holds_iff {w : World} {B : Nat} {v : Value} {l : List T} (h : Holds w B v l) : (l = [] ∧ ∃ a cap, v = .slice a 0 cap) ∨ (0 < l.length ∧ ∃ b off cap, v = .slice (some ⟨b, off, none⟩) l.length cap ∧ b < B ∧ l.length ≤ cap ∧ At w b off l) := h
theorem holds_nil (w : World) (B : Nat) (a : Option Addr) (cap : Nat) : Holds w B (.slice a 0 cap) [] := Or.inl ⟨rfl, _, _, rfl⟩
theorem at_cells {w : World} {b off : Nat} {l : List T} (h : At w b off l) {j : Nat} (hj : j < l.length) : w.cell? ⟨b, off + j * 3, none⟩ = some (.string ⟨((l.getD j nov).1).toArray⟩) ∧ w.cell? ⟨b, off + j * 3 + 1, none⟩ = some (.string ⟨((l.getD j nov).2.1).toArray⟩) ∧ w.cell? ⟨b, off + j * 3 + 2, none⟩ = some (.bool ((l.getD j nov).2.2)) := ⟨h j hj 0 _ rfl, h j hj 1 _ rfl, h j hj 2 _ rfl⟩
theorem at_lt {w : World} {b off : Nat} {l : List T} (h : At w b off l) (h0 : 0 < l.length) : b < w.heap.size := Rec.at_lt cs_len (by decide) h h0
theorem at_below {w w' : World} {B b off : Nat} {l : List T} (h : At w b off l) (hb : Below B w w') (hlt : b < B) : At w' b off l := Rec.at_below h hb hlt
theorem holds_more {w : World} {B B' : Nat} {v : Value} {l : List T} (h : Holds w B v l) (hB : B ≤ B') : Holds w B' v l := Rec.holds_more h hB
theorem holds_below {w w' : World} {B : Nat} {v : Value} {l : List T} (h : Holds w B v l) (hb : Below B w w') : Holds w' B v l := Rec.holds_below h hb
theorem holds_grown {w w' : World} {B : Nat} {v : Value} {l : List T} {row : Option Nat} (h : Holds w B v l) (hg : w.grownBy w' row) (hr : ∀ k, row = some k → B ≤ k) : Holds w' B v l := Rec.holds_grown h hg hr
theorem holds_drew {w : World} {B : Nat} {v : Value} {l : List T} (h : Holds w B v l) : Holds w.drew B v l := h
def part (l : List T) (k : Nat) : List T := Rec.part nov l k
theorem part_len (l : List T) {k : Nat} (h : k ≤ l.length) : (part l k).length = l.length := Rec.part_len l h
theorem part_all (l : List T) : part l l.length = l := Rec.part_all l
theorem part_more {l : List T} {k : Nat} (h : k < l.length) : (part l k).set k (l.getD k nov) = part l (k + 1) := Rec.part_more h
theorem made_part (l : List T) : (madeCells (Value.agg #[.string ⟨#[]⟩, .string ⟨#[]⟩, .bool false]).cells (l.length * 3)).toList = fcs (part l 0) := Rec.made_part cs_len (by decide) l _ rfl
def wt (f : T) : Nat := f.1.length + f.2.1.length
def total (l : List T) : Nat := Rec.total wt l
theorem len_le_total (l : List T) : l.length ≤ total l := Rec.len_le_total wt l
theorem mem_total {l : List T} {f : T} (h : f ∈ l) : wt f ≤ total l := Rec.mem_total wt h
end Go.Proofs.YtppdcboobpbajaaDoor.Dir
