/-
  CONTRACTS AND PLAIN FACTS, several texts in one; each says in its own words what it proves.
-/
import Derived.Test.YtegaakgmfphcaaaGreatDoorSelC
import Derived.Test.YtegaakgmfphcaaaGreatDoorSelD
import Derived.LoopTactic
import Derived.Outline
import Derived.Test.YtegaakgmfphcaaaGreatDoorSelB
set_option linter.unusedSimpArgs false
set_option linter.unusedVariables false

/-
  CONTRACTS of the draws of chapter 14 (l14Fields, DrawVaryOf, DrawSelectingOf): over any slice of bytes they answer few short fields, a request and few names in memory of their own; nothing that was there before is changed.
-/
namespace Go.Proofs.YtegaakgmfphcaaaGreatDoor.Cur
open Go Go.RowKit
set_option linter.unusedVariables false
set_option maxRecDepth 1000000

def snames : List (List UInt8) := [[97, 99, 99, 101, 112, 116, 45, 108, 97, 110, 103, 117, 97, 103, 101], [97, 117, 116, 104, 111, 114, 105, 122, 97, 116, 105, 111, 110], [97]]
theorem snames_len (x : List UInt8) (h : x ∈ snames) : x.length ≤ 15 := by
  have hall : snames.all (fun x => decide (x.length ≤ 15)) = true := by decide
  have := List.all_eq_true.1 hall x h
  simpa using this
def svalues : List (List UInt8) := [[100, 101], [100, 101, 32, 44, 32, 101, 110], [100, 101, 44, 101, 110], [], [117, 49], [117, 50]]
theorem svalues_len (x : List UInt8) (h : x ∈ svalues) : x.length ≤ 7 := by
  have hall : svalues.all (fun x => decide (x.length ≤ 7)) = true := by decide
  have := List.all_eq_true.1 hall x h
  simpa using this
def svary : List (List UInt8) := [[65, 99, 99, 101, 112, 116, 45, 76, 97, 110, 103, 117, 97, 103, 101], [97, 44, 32, 65], [42], [97, 44, 32, 42], [], [97, 117, 116, 104, 111, 114, 105, 122, 97, 116, 105, 111, 110, 44, 32, 97, 99, 99, 101, 112, 116, 45, 108, 97, 110, 103, 117, 97, 103, 101]]
theorem svary_len (x : List UInt8) (h : x ∈ svary) : x.length ≤ 30 := by
  have hall : svary.all (fun x => decide (x.length ≤ 30)) = true := by decide
  have := List.all_eq_true.1 hall x h
  simpa using this
def sasked : List (List UInt8) := [[97, 99, 99, 101, 112, 116, 45, 108, 97, 110, 103, 117, 97, 103, 101], [97, 117, 116, 104, 111, 114, 105, 122, 97, 116, 105, 111, 110], [97], [110, 111, 110, 101]]
theorem sasked_len (x : List UInt8) (h : x ∈ sasked) : x.length ≤ 15 := by
  have hall : sasked.all (fun x => decide (x.length ≤ 15)) = true := by decide
  have := List.all_eq_true.1 hall x h
  simpa using this
theorem few_mono {l : List Flds.Fld} {n : Nat} (h : l.length ≤ n) (hn : n ≤ 5) (hb : ∀ f ∈ l, f.1.length ≤ 15 ∧ f.2.length ≤ 9) : Few l := ⟨Nat.le_trans h hn, hb⟩
/-- A few more: at most n fields, the values of any length up to m. -/
def FewN (n : Nat) (l : List Flds.Fld) : Prop := l.length ≤ n ∧ ∀ f ∈ l, f.1.length ≤ 15 ∧ f.2.length ≤ 40
theorem fewn_total {n : Nat} {l : List Flds.Fld} (h : FewN n l) : Flds.total l ≤ 56 * n := by
  have hs : ∀ q : List Flds.Fld, (∀ f ∈ q, f.1.length ≤ 15 ∧ f.2.length ≤ 40) → (q.map Flds.wt).sum ≤ 55 * q.length := by
    intro q
    induction q with
    | nil => intro _; simp
    | cons a r ih =>
      intro hq
      have h1 := hq a (List.mem_cons_self ..)
      have h2 := ih (fun f hf => hq f (List.mem_cons_of_mem _ hf))
      rw [List.map_cons, List.sum_cons, List.length_cons]
      unfold Flds.wt at *
      omega
  have h1 := hs l h.2
  have h2 := h.1
  unfold Flds.total
  omega
theorem fewn_push {l : List Flds.Fld} {x y : List UInt8} (h : ∀ f ∈ l, f.1.length ≤ 15 ∧ f.2.length ≤ 40) (hx : x.length ≤ 15) (hy : y.length ≤ 40) : ∀ f ∈ l ++ [(x, y)], f.1.length ≤ 15 ∧ f.2.length ≤ 40 := by
  intro f hf
  rcases List.mem_append.1 hf with hf | hf
  · exact h f hf
  · rw [List.mem_singleton] at hf; subst hf; exact ⟨hx, hy⟩
def DrawnN (n : Nat) (c : Nat) (bv : Value) (w : World) (e : Ending) (w' : World) : Prop := ∃ (v : Value) (l : List Flds.Fld), e = .returned v ∧ FewN n l ∧ Sh v l ∧ Flds.Own w' w.heap.size v l ∧ CurAt w' c bv ∧ w.grownBy w' (some c)
set_option maxHeartbeats 4000000 in
theorem flds14 (c B : Nat) (bv : Value) (w : World) (hcur : CurAt w c bv) (hby : Bytes w B bv) (hB : B ≤ c) :
    Calls Tryz.prog 22 #[.pointer (some ⟨c, 0, none⟩)] w (DrawnN 3 c bv w) := by
  obtain ⟨i0, hi, hz0, hz1, hz2⟩ := info_parts Flds.info_fld
  have hcw := cur_lt hcur
  have hcu := cur_alloc hcur (.cells #[] 39)
  have hby1 := bytes_alloc hby (.cells #[] 39)
  have hgw : w.grownBy (w.alloc (.cells #[] 39)) (some c) := World.grownBy_alloc _ _ _
  have HO := Lib.hid (Flds.own_lit_nil w)
  clear hcur
  go_enter Tryz.func22, Tryz.ntmps22
  go_wp2_with (fail)
  go_at_call 23
  refine (below_any c B bv 4 _ hcu hby1 hB (by omega)).mono ?_
  rintro e w2 ⟨x, hx, rfl, hc2, hg2⟩
  obtain ⟨n, rfl, hn⟩ : ∃ n : Nat, x = (n : Int) ∧ n ≤ 3 := ⟨x.toNat, by have := hx.1; omega, by have := hx.1; have := hx.2; omega⟩
  have HO2 := Lib.hid (HO.out.kept hg2 (Or.inr (fun e => by have := (HO.out.lt _ e).1; omega)))
  have HI := Lib.hid (And.intro hc2 (gb_trans hgw hg2))
  have HBY := Lib.hid hby
  clear hx hc2 hg2 hby1 hby hgw hcu HO
  go_wp2
  go_loopw [3, 4] (fun u i wr => ∃ (k : Nat) (l : List Flds.Fld), i = .int .i64 (k : Int) ∧ l.length + k ≤ 3 ∧ Hid (∀ f ∈ l, f.1.length ≤ 15 ∧ f.2.length ≤ 40) ∧ Hid (Sh u l) ∧ Hid (Flds.Own wr w.heap.size u l) ∧ Hid (CurAt wr c bv) ∧ Hid (w.grownBy wr (some c))) (fun _ i _ => (intOf i).toNat)
  case atStart => exact ⟨n, [], rfl, by simp; omega, Lib.hid (fun f hf => by cases hf), Lib.hid ⟨_, _, rfl⟩, HO2, Lib.hid HI.out.1, Lib.hid HI.out.2⟩
  case round =>
    clear HI HO2
    obtain ⟨k, l, rfl, hl, HF, HS, HO, HC, HG⟩ := hrel
    by_cases hz : 0 < k
    · have hzi : 0 < (k : Int) := by omega
      have hyr := bytes_kept HBY.out HG.out hB
      have H1 := str_lits c B bv snames 3 rfl wr HC.out hyr hB (by decide) (by decide) 9
      have hL := Flds.fcs_len l
      go_wp2_with (fail)
      go_at_call 24
      refine H1.mono ?_
      rintro e w3 ⟨x, hx, rfl, hc3, hg3⟩
      have HX : Hid (x.length ≤ 15) := Lib.hid (snames_len x hx)
      have HO3 := Lib.hid (HO.out.kept hg3 (Or.inr (fun e => by have := (HO.out.lt _ e).1; omega)))
      have HG3 := Lib.hid (gb_trans HG.out hg3)
      have hy3 := bytes_kept hyr hg3 hB
      have H2 := str_lits c B bv svalues 6 rfl w3 hc3 hy3 hB (by decide) (by decide) 9
      clear hx hg3 hc3 HO HC HG H1 hyr hy3
      go_wp2_with (fail)
      go_at_call 24
      refine H2.mono ?_
      rintro e w4 ⟨y, hy, rfl, hc4, hg4⟩
      have HY : Hid (y.length ≤ 40) := Lib.hid (Nat.le_trans (svalues_len y hy) (by decide))
      have hown := HO3.out.kept hg4 (Or.inr (fun e => by have := (HO3.out.lt _ e).1; omega))
      have HG4 := Lib.hid (gb_trans HG3.out hg4)
      have HC4 := Lib.hid hc4
      have hsz4 := HG4.out.size
      clear hy hg4 hc4 HO3 HG3 H2
      have HK := Lib.hid (show (k : Int) - 1 = ((k - 1 : Nat) : Int) by omega)
      have HFP := Lib.hid (fewn_push HF.out HX.out HY.out)
      go_wp2_with (at_builtin; refine wpList_append_own _ rfl _ _ 24 rfl w.heap.size 39 i0 (.agg #[.string ⟨#[]⟩, .string ⟨#[]⟩]) 2 32 Tryz.underlying24 hi hz0 hz1 hz2 rfl (by decide) _ _ _ rfl (hown.alloc _) ⟨w4.heap.size, 0, none⟩ 1 1 [Flds.sv x, Flds.sv y] rfl rfl (Flds.news_two _ _ _ _) (Flds.two_one (x, y)) (by unfold maxLen; omega) (by omega) (by simp; omega) ?_; intro v1 w5 hown1 hg1 _)
      have R : Hid (Flds.Own w5 w.heap.size v1 (l ++ [(x, y)])) := Lib.hid (by show w5.ownsRow _ _ _ _ (l ++ [(x, y)]).length (Flds.fcs (l ++ [(x, y)])); rw [List.length_append, Flds.fcs_more]; exact hown1)
      have HS5 : Hid (Sh v1 (l ++ [(x, y)])) := Lib.hid (sh_own R.out (by simp))
      have HC5 := Lib.hid (cur_row (cur_alloc HC4.out _) hg1 (fun k e => by have := (hown.lt k e).1; omega))
      have HG5 := Lib.hid (gb_own (gb_trans HG4.out (World.grownBy_alloc _ _ _)) hg1 (fun k e => (hown.lt k e).1))
      clear hown hown1 hg1 HC4 HG4
      go_wp2
      go_roundw
      case rel => exact ⟨k - 1, l ++ [(x, y)], by rw [← HK.out], by rw [List.length_append]; simp; omega, HFP, HS5, R, HC5, HG5⟩
      case measure => simp [intOf]; omega
    · have hzi : ¬ 0 < (k : Int) := by omega
      have HE := Lib.hid (show l.length ≤ 3 by omega)
      clear hl
      go_wp2
      go_ret
      exact ⟨_, l, rfl, ⟨HE.out, HF.out⟩, HS.out, HO.out, HC.out, HG.out⟩

def OneN (n : Nat) (w : World) (e : Ending) (w' : World) : Prop := ∃ (v : Value) (l : List Flds.Fld), e = .returned v ∧ FewN n l ∧ Flds.Own w' w.heap.size v l ∧ Below w.heap.size w w'
def varyName : List UInt8 := [118, 97, 114, 121]
set_option maxHeartbeats 4000000 in
theorem draw_vo (B : Nat) (bv : Value) (w : World) (hby : Bytes w B bv) (hB : B ≤ w.heap.size) :
    Calls Tryz.prog 8 #[bv] w (OneN 5 w) := by
  obtain ⟨i0, hi, hz0, hz1, hz2⟩ := info_parts Flds.info_fld
  go_enter Tryz.func8, Tryz.ntmps8
  go_wp2_with (fail)
  go_at_call 20
  refine (new_any B bv _ hby).mono ?_
  rintro e w1 ⟨h, rfl, rfl⟩
  have hy1 := bytes_alloc hby (.cells #[bv, .int .i64 0, .int .i64 h] 71)
  have hbw : Below w.heap.size w (w.alloc (.cells #[bv, .int .i64 0, .int .i64 h] 71)) := (Below.refl _ _).alloc (Nat.le_refl _) _
  have hs1 : (w.alloc (.cells #[bv, .int .i64 0, .int .i64 h] 71)).heap.size = w.heap.size + 1 := by simp
  go_wp2_with (fail)
  go_at_call 22
  refine (flds14 w.heap.size B bv _ (made_cur bv h w) hy1 hB).mono ?_
  rintro e w2 ⟨v, l, rfl, hf, hs, ho, hc2, hg2⟩
  rw [hs1] at ho
  have hy2 := bytes_kept hy1 hg2 hB
  have HB2 := Lib.hid (below_gb hbw hg2 hbw.size (Nat.le_refl _))
  have HO2 := Lib.hid ho
  have HF := Lib.hid hf
  clear hf hs ho hg2 hy1 hbw hs1
  go_wp2_with (fail)
  go_at_call 23
  refine (below_any w.heap.size B bv 3 _ hc2 hy2 hB (by omega)).mono ?_
  rintro e w3 ⟨x, hx, rfl, hc3, hg3⟩
  obtain ⟨n, rfl, hn⟩ : ∃ n : Nat, x = (n : Int) ∧ n ≤ 2 := ⟨x.toNat, by have := hx.1; omega, by have := hx.1; have := hx.2; omega⟩
  have HO3 := Lib.hid (HO2.out.kept hg3 (Or.inr (fun e => by have := (HO2.out.lt _ e).1; omega)))
  have HI := Lib.hid (And.intro hc3 (And.intro (bytes_kept hy2 hg3 hB) (below_gb HB2.out hg3 HB2.out.size (Nat.le_refl _))))
  clear hx hc2 hc3 hg3 hy2 HO2 HB2
  go_wp2
  go_loopw [4, 5] (fun u i wr => ∃ (k : Nat) (l : List Flds.Fld), i = .int .i64 (k : Int) ∧ l.length + k ≤ 5 ∧ Hid (∀ f ∈ l, f.1.length ≤ 15 ∧ f.2.length ≤ 40) ∧ Hid (Flds.Own wr (w.heap.size + 1) u l) ∧ Hid (CurAt wr w.heap.size bv) ∧ Hid (Bytes wr B bv) ∧ Hid (Below w.heap.size w wr)) (fun _ i _ => (intOf i).toNat)
  case atStart => exact ⟨n, l, rfl, by have := HF.out.1; omega, Lib.hid HF.out.2, HO3, Lib.hid HI.out.1, Lib.hid HI.out.2.1, Lib.hid HI.out.2.2⟩
  case round =>
    clear HI HO3 HF
    obtain ⟨k, l, rfl, hl, HF, HO, HC, HY, HB⟩ := hrel
    by_cases hz : 0 < k
    · have hzi : 0 < (k : Int) := by omega
      have H1 := str_lits w.heap.size B bv svary 6 rfl wr HC.out HY.out hB (by decide) (by decide) 9
      have hL := Flds.fcs_len l
      go_wp2_with (fail)
      go_at_call 24
      refine H1.mono ?_
      rintro e w4 ⟨y, hy, rfl, hc4, hg4⟩
      have HYL : Hid (y.length ≤ 40) := Lib.hid (Nat.le_trans (svary_len y hy) (by decide))
      have hown := HO.out.kept hg4 (Or.inr (fun e => by have := (HO.out.lt _ e).1; omega))
      have HB4 := Lib.hid (below_gb HB.out hg4 HB.out.size (Nat.le_refl _))
      have HY4 := Lib.hid (bytes_kept HY.out hg4 hB)
      have HC4 := Lib.hid hc4
      have hsz4 := HB4.out.size
      clear hy hg4 hc4 HO HC HY HB H1
      have HK := Lib.hid (show (k : Int) - 1 = ((k - 1 : Nat) : Int) by omega)
      have HFP := Lib.hid (fewn_push (x := varyName) HF.out (by decide) HYL.out)
      have hvn : varyName = [118, 97, 114, 121] := rfl
      rw [hvn] at HFP
      go_wp2_with (at_builtin; refine wpList_append_own _ rfl _ _ 24 rfl (w.heap.size + 1) 39 i0 (.agg #[.string ⟨#[]⟩, .string ⟨#[]⟩]) 2 32 Tryz.underlying24 hi hz0 hz1 hz2 rfl (by decide) _ _ _ rfl (hown.alloc _) ⟨w4.heap.size, 0, none⟩ 1 1 [Flds.sv [118, 97, 114, 121], Flds.sv y] rfl rfl (Flds.news_two _ _ _ _) (Flds.two_one ([118, 97, 114, 121], y)) (by unfold maxLen; omega) (by omega) (by simp; omega) ?_; intro v1 w5 hown1 hg1 _)
      have R : Hid (Flds.Own w5 (w.heap.size + 1) v1 (l ++ [([118, 97, 114, 121], y)])) := Lib.hid (by show w5.ownsRow _ _ _ _ (l ++ [([118, 97, 114, 121], y)]).length (Flds.fcs (l ++ [([118, 97, 114, 121], y)])); rw [List.length_append, Flds.fcs_more]; exact hown1)
      have HB5 := Lib.hid ((HB4.out.alloc HB4.out.size _).grown hg1 (by have := HB4.out.size; simp; omega) (fun k e => Nat.le_trans (Nat.le_succ _) (hown.lt k e).1))
      have HC5 := Lib.hid (cur_row (cur_alloc HC4.out _) hg1 (fun k e => by have := (hown.lt k e).1; omega))
      have HY5 := Lib.hid (bytes_row (bytes_alloc HY4.out _) hg1 (fun k e => by have := (hown.lt k e).1; omega))
      clear hown hown1 hg1 HC4 HY4 HB4
      go_wp2
      go_roundw
      case rel => exact ⟨k - 1, l ++ [([118, 97, 114, 121], y)], by rw [← HK.out], by rw [List.length_append]; simp; omega, HFP, R, HC5, HY5, HB5⟩
      case measure => simp [intOf]; omega
    · have hzi : ¬ 0 < (k : Int) := by omega
      have HE := Lib.hid (And.intro (show l.length ≤ 5 by omega) (Flds.own_mono HO.out (B' := w.heap.size) (by omega)))
      clear hl HO
      go_wp2
      go_ret
      exact ⟨_, l, rfl, ⟨HE.out.1, HF.out⟩, HE.out.2, HB.out⟩

theorem set4_3 {w : World} {g : Nat} {a b c d u : Value} {T : TypeId} (h : w.heap[g]? = some (.cells #[a, b, c, d] T (0, 0))) : (w.setCell ⟨g, 3, none⟩ u).heap[g]? = some (.cells #[a, b, c, u] T (0, 0)) := by
  have hlt := lt_of_block h
  have h' : w.heap[g] = .cells #[a, b, c, d] T (0, 0) := by simpa [Array.getElem?_eq_getElem hlt] using h
  show (w.heap.modify g _)[g]? = _
  rw [Array.getElem?_eq_getElem (by simpa using hlt), Array.getElem_modify_self, h']
  rfl
theorem blk_row {W w' : World} {g : Nat} {o : Obj} {row : Option Nat} (hW : W.heap[g]? = some o) (hg : W.grownBy w' row) (hne : ∀ k, row = some k → k ≠ g) : w'.heap[g]? = some o := (hg.block g (lt_of_block hW) (fun e => hne g e.symm rfl)).trans hW
theorem blk_alloc {W : World} {g : Nat} {o q : Obj} (hW : W.heap[g]? = some o) : (W.alloc q).heap[g]? = some o := (Below.heap_alloc _ _ _ (lt_of_block hW)).trans hW
def ReqNames (w : World) (e : Ending) (w' : World) : Prop := ∃ (m h t : List UInt8) (v u : Value) (l : List Flds.Fld) (zs : List (List UInt8)), e = .returned (.tuple #[.agg #[.string ⟨m.toArray⟩, .string ⟨h.toArray⟩, .string ⟨t.toArray⟩, v], u]) ∧ (m.length ≤ 4 ∧ h.length ≤ 9 ∧ t.length ≤ 40 ∧ FewN 3 l) ∧ zs.length ≤ 3 ∧ Flds.Own w' w.heap.size v l ∧ Strs.Own w' w.heap.size u zs ∧ Below w.heap.size w w'
set_option maxHeartbeats 8000000 in
theorem draw_so (B : Nat) (bv : Value) (w : World) (hby : Bytes w B bv) (hB : B ≤ w.heap.size) :
    Calls Tryz.prog 6 #[bv] w (ReqNames w) := by
  obtain ⟨i0, hi, hz0, hz1, hz2⟩ := info_parts Strs.info_str
  have hy0 := bytes_alloc hby (.cells #[.string ⟨#[]⟩, .string ⟨#[]⟩, .string ⟨#[]⟩, .slice none 0 0] 26)
  have hbx := box4_new w (.string ⟨#[]⟩) (.string ⟨#[]⟩) (.string ⟨#[]⟩) (.slice none 0 0) 26
  have hbw : Below w.heap.size w (w.alloc (.cells #[.string ⟨#[]⟩, .string ⟨#[]⟩, .string ⟨#[]⟩, .slice none 0 0] 26)) := (Below.refl _ _).alloc (Nat.le_refl _) _
  have hsz : (w.alloc (.cells #[.string ⟨#[]⟩, .string ⟨#[]⟩, .string ⟨#[]⟩, .slice none 0 0] 26)).heap.size = w.heap.size + 1 := by simp
  have HMC := Lib.hid (fun h => made_cur bv h (w.alloc (.cells #[.string ⟨#[]⟩, .string ⟨#[]⟩, .string ⟨#[]⟩, .slice none 0 0] 26)))
  rw [hsz] at HMC
  have HBX := Lib.hid hbx
  have HBW := Lib.hid hbw
  clear hbx hbw
  go_enter Tryz.func6, Tryz.ntmps6
  go_wp2_with (fail)
  go_at_call 20
  refine (new_any B bv _ hy0).mono ?_
  rintro e w1 ⟨h, rfl, rfl⟩
  have hcu := HMC.out h
  have hby1 := bytes_alloc hy0 (.cells #[bv, .int .i64 0, .int .i64 h] 71)
  have HB1 := Lib.hid (HBW.out.alloc (by rw [hsz]; omega) (.cells #[bv, .int .i64 0, .int .i64 h] 71))
  have HX1 := Lib.hid ((Below.heap_alloc _ (.cells #[bv, .int .i64 0, .int .i64 h] 71) _ (show w.heap.size < (w.alloc (.cells #[.string ⟨#[]⟩, .string ⟨#[]⟩, .string ⟨#[]⟩, .slice none 0 0] 26)).heap.size by rw [hsz]; omega)).trans HBX.out)
  have hs1 : ((w.alloc (.cells #[.string ⟨#[]⟩, .string ⟨#[]⟩, .string ⟨#[]⟩, .slice none 0 0] 26)).alloc (.cells #[bv, .int .i64 0, .int .i64 h] 71)).heap.size = w.heap.size + 2 := by simp
  have HS1 := Lib.hid hs1
  clear hy0 HMC HBX HBW hs1 hsz
  go_wp2_with (fail)
  go_at_call 21
  refine (req_any (w.heap.size + 1) B bv _ hcu hby1 (by omega)).mono ?_
  rintro e w2 ⟨m, hh, t, v, l, rfl, hrs, ⟨g, cp, rfl⟩, ho, hc2, hg2⟩
  have hy2 := bytes_kept hby1 hg2 (by omega)
  have HG2 := Lib.hid (gb_trans hg2 (World.grownBy_alloc w2 (.cells #[.string ⟨m.toArray⟩, .string ⟨hh.toArray⟩, .string ⟨t.toArray⟩, .slice (some ⟨g, 0, none⟩) l.length cp] 26) _))
  have HR := Lib.hid hrs
  have hs2 : w.heap.size + 2 ≤ w2.heap.size := by have := hg2.size; rw [HS1.out] at this; exact this
  have hca := cur_alloc hc2 (.cells #[.string ⟨m.toArray⟩, .string ⟨hh.toArray⟩, .string ⟨t.toArray⟩, .slice (some ⟨g, 0, none⟩) l.length cp] 26)
  have hya := bytes_alloc hy2 (.cells #[.string ⟨m.toArray⟩, .string ⟨hh.toArray⟩, .string ⟨t.toArray⟩, .slice (some ⟨g, 0, none⟩) l.length cp] 26)
  have HBY := Lib.hid (box4_new w2 (.string ⟨m.toArray⟩) (.string ⟨hh.toArray⟩) (.string ⟨t.toArray⟩) (.slice (some ⟨g, 0, none⟩) l.length cp) 26)
  have hs2a : (w2.alloc (.cells #[.string ⟨m.toArray⟩, .string ⟨hh.toArray⟩, .string ⟨t.toArray⟩, .slice (some ⟨g, 0, none⟩) l.length cp] 26)).heap.size = w2.heap.size + 1 := by simp
  have HS2 := Lib.hid hs2a
  clear hcu hby1 hg2 hrs ho hc2 hy2 hs2a
  go_wp2_with (fail)
  go_at_call 22
  refine (flds14 (w.heap.size + 1) B bv _ hca hya (by omega)).mono ?_
  rintro e w3 ⟨v3, l3, rfl, hf3, ⟨g3, cp3, rfl⟩, ho3, hc3, hg3⟩
  rw [HS2.out] at ho3
  have hg30 : w2.heap.size + 1 ≤ g3 := (ho3.lt g3 rfl).1
  have hg31 : g3 < w3.heap.size := (ho3.lt g3 rfl).2
  have hw23 : w2.heap.size + 1 ≤ w3.heap.size := by have := hg3.size; rw [HS2.out] at this; exact this
  have HG3 := Lib.hid (gb_trans HG2.out hg3)
  obtain ⟨⟨y0, y1, y2, y3⟩, ⟨e0, e1, e2, e3⟩⟩ := box4 (blk_far HBY.out hg3 (by omega))
  have HB3 := Lib.hid (set4_3 (u := .slice (some ⟨g3, 0, none⟩) l3.length cp3) (blk_far HBY.out hg3 (by omega)))
  have HX3 : Hid ((w3.setCell ⟨w2.heap.size, 3, none⟩ (.slice (some ⟨g3, 0, none⟩) l3.length cp3)).heap[w.heap.size]? = some (.cells #[.string ⟨#[]⟩, .string ⟨#[]⟩, .string ⟨#[]⟩, .slice none 0 0] 26 (0, 0))) := Lib.hid (blk_row (blk_far HX1.out HG3.out (by omega)) (gb_set w3 w2.heap.size 3 (.slice (some ⟨g3, 0, none⟩) l3.length cp3)) (fun k e => by cases e; omega))
  have hy3' := bytes_kept hya hg3 (by omega)
  have HY3 := Lib.hid (bytes_row hy3' (gb_set w3 w2.heap.size 3 (.slice (some ⟨g3, 0, none⟩) l3.length cp3)) (fun k e => by cases e; omega))
  have HC3 := Lib.hid (cur_row hc3 (gb_set w3 w2.heap.size 3 (.slice (some ⟨g3, 0, none⟩) l3.length cp3)) (fun k e => by cases e; omega))
  have HO3 := Lib.hid (own_put1 (g := w2.heap.size) (o := 3) (u := .slice (some ⟨g3, 0, none⟩) l3.length cp3) ho3 (fun k e => by have h9 : some g3 = some k := e; cases h9; omega))
  have HW3 := Lib.hid (Below.setCell (below_gb HB1.out HG3.out HB1.out.size (by omega)) (p := ⟨w2.heap.size, 3, none⟩) (show w.heap.size ≤ w2.heap.size by omega) (.slice (some ⟨g3, 0, none⟩) l3.length cp3))
  have hsw : (w3.setCell ⟨w2.heap.size, 3, none⟩ (.slice (some ⟨g3, 0, none⟩) l3.length cp3)).heap.size = w3.heap.size := by show (w3.heap.modify _ _).size = _; rw [Array.size_modify]
  have HF3 := Lib.hid hf3
  have HSW := Lib.hid hsw
  clear hca hya hc3 hg3 hf3 ho3 HBY HG2 HG3 HX1 HB1 hy3' hsw
  have hcl := Lib.hid (cur_alloc HC3.out (.cells #[] 9))
  have hyl := Lib.hid (bytes_alloc HY3.out (.cells #[] 9))
  have hno := Strs.own_lit_nil (w3.setCell ⟨w2.heap.size, 3, none⟩ (.slice (some ⟨g3, 0, none⟩) l3.length cp3))
  rw [HSW.out] at hno
  have HN := Lib.hid hno
  have HO4 := Lib.hid (HO3.out.alloc (.cells #[] 9))
  have HB4 := Lib.hid (blk_alloc (q := .cells #[] 9) HB3.out)
  have HX4 := Lib.hid (blk_alloc (q := .cells #[] 9) HX3.out)
  have HW4 := Lib.hid (HW3.out.alloc HW3.out.size (.cells #[] 9))
  clear hno HC3 HY3 HO3 HB3 HX3 HW3
  go_wp2_with (fail)
  go_at_call 23
  refine (below_any (w.heap.size + 1) B bv 4 _ hcl.out hyl.out (by omega) (by omega)).mono ?_
  rintro e w5 ⟨x, hx, rfl, hc5, hg5⟩
  obtain ⟨n, rfl, hn⟩ : ∃ n : Nat, x = (n : Int) ∧ n ≤ 3 := ⟨x.toNat, by have := hx.1; omega, by have := hx.1; have := hx.2; omega⟩
  have HN5 := Lib.hid (HN.out.kept hg5 (Or.inr (fun e => by have := (HN.out.lt _ e).1; omega)))
  have HO5 := Lib.hid (HO4.out.kept hg5 (Or.inr (fun e => by have h9 : some g3 = some (w.heap.size + 1) := e; cases h9; omega)))
  have HB5 := Lib.hid (blk_far HB4.out hg5 (by omega))
  have HX5 := Lib.hid (blk_far HX4.out hg5 (by omega))
  have HI := Lib.hid (And.intro hc5 (And.intro (bytes_kept hyl.out hg5 (by omega)) (below_gb HW4.out hg5 HW4.out.size (by omega))))
  have HS5 : Hid (w3.heap.size ≤ w5.heap.size) := Lib.hid (by have := hg5.size; rw [World.size_alloc, HSW.out] at this; omega)
  clear hx hc5 hg5 hcl hyl HN HO4 HB4 HX4 HW4 y0 y1 y2 y3 e0 e1 e2 e3
  go_wp2
  go_loopw [6, 7] (fun u i wr => ∃ (k : Nat) (zs : List (List UInt8)), i = .int .i64 (k : Int) ∧ zs.length + k ≤ 3 ∧ Hid (Strs.Own wr w3.heap.size u zs) ∧ Hid (Flds.Own wr (w2.heap.size + 1) (.slice (some ⟨g3, 0, none⟩) l3.length cp3) l3) ∧ Hid (wr.heap[w2.heap.size]? = some (.cells #[.string ⟨m.toArray⟩, .string ⟨hh.toArray⟩, .string ⟨t.toArray⟩, .slice (some ⟨g3, 0, none⟩) l3.length cp3] 26 (0, 0))) ∧ Hid (wr.heap[w.heap.size]? = some (.cells #[.string ⟨#[]⟩, .string ⟨#[]⟩, .string ⟨#[]⟩, .slice none 0 0] 26 (0, 0))) ∧ Hid (w3.heap.size ≤ wr.heap.size) ∧ Hid (CurAt wr (w.heap.size + 1) bv) ∧ Hid (Bytes wr B bv) ∧ Hid (Below w.heap.size w wr)) (fun _ i _ => (intOf i).toNat)
  case atStart => exact ⟨n, [], rfl, by simp; omega, HN5, HO5, HB5, HX5, HS5, Lib.hid HI.out.1, Lib.hid HI.out.2.1, Lib.hid HI.out.2.2⟩
  case round =>
    clear HI HN5 HO5 HB5 HX5 HS5
    obtain ⟨k, zs, rfl, hl, HN, HO, HB, HX, HS, HC, HY, HW⟩ := hrel
    by_cases hz : 0 < k
    · have hzi : 0 < (k : Int) := by omega
      have H1 := str_lits (w.heap.size + 1) B bv sasked 4 rfl wr HC.out HY.out (by omega) (by decide) (by decide) 9
      have hL := Strs.svs_len zs
      have hwr := HW.out.size
      go_wp2_with (fail)
      go_at_call 24
      refine H1.mono ?_
      rintro e w6 ⟨x, hx, rfl, hc6, hg6⟩
      have hown := HN.out.kept hg6 (Or.inr (fun e => by have := (HN.out.lt _ e).1; omega))
      have HO6 := Lib.hid (HO.out.kept hg6 (Or.inr (fun e => by have h9 : some g3 = some (w.heap.size + 1) := e; cases h9; omega)))
      have HB6 := Lib.hid (blk_far HB.out hg6 (by omega))
      have HX6 := Lib.hid (blk_far HX.out hg6 (by omega))
      have HW6 := Lib.hid (below_gb HW.out hg6 HW.out.size (by omega))
      have HY6 := Lib.hid (bytes_kept HY.out hg6 (by omega))
      have HC6 := Lib.hid hc6
      have hs6 := hg6.size
      have hsr := HS.out
      have HS6 := Lib.hid (Nat.le_trans hsr hs6)
      clear hx hg6 hc6 HN HO HB HX HC HY HW H1
      have HK := Lib.hid (show (k : Int) - 1 = ((k - 1 : Nat) : Int) by omega)
      go_wp2_with (at_builtin; refine wpList_append_own _ rfl _ _ 27 rfl w3.heap.size 9 i0 (.string ⟨#[]⟩) 1 16 Tryz.underlying27 hi hz0 hz1 hz2 rfl (by decide) _ _ _ rfl (hown.alloc _) ⟨w6.heap.size, 0, none⟩ 1 1 [.string ⟨x.toArray⟩] rfl rfl (Strs.news_one _ _ _) (Strs.sv_one x) (by unfold maxLen; omega) (by omega) (by simp; omega) ?_; intro v1 w7 hown1 hg1 _)
      have R : Hid (Strs.Own w7 w3.heap.size v1 (zs ++ [x])) := Lib.hid (by show w7.ownsRow _ _ _ _ (zs ++ [x]).length (Strs.svs (zs ++ [x])); rw [List.length_append, Strs.svs_more]; exact hown1)
      have hrow : ∀ k, u6.ownBlock = some k → w3.heap.size ≤ k := fun k e => (hown.lt k e).1
      have HO7 := Lib.hid ((HO6.out.alloc (.cells #[.string ⟨x.toArray⟩] 9)).kept hg1 (Or.inr (fun e => by have h9 := hrow g3 e.symm; omega)))
      have HB7 := Lib.hid (blk_row (blk_alloc (q := .cells #[.string ⟨x.toArray⟩] 9) HB6.out) hg1 (fun k e => by have := hrow k e; omega))
      have HX7 := Lib.hid (blk_row (blk_alloc (q := .cells #[.string ⟨x.toArray⟩] 9) HX6.out) hg1 (fun k e => by have := hrow k e; omega))
      have HC7 := Lib.hid (cur_row (cur_alloc HC6.out (.cells #[.string ⟨x.toArray⟩] 9)) hg1 (fun k e => by have := hrow k e; omega))
      have HY7 := Lib.hid (bytes_row (bytes_alloc HY6.out (.cells #[.string ⟨x.toArray⟩] 9)) hg1 (fun k e => by have := hrow k e; omega))
      have HW7 := Lib.hid ((HW6.out.alloc HW6.out.size (.cells #[.string ⟨x.toArray⟩] 9)).grown hg1 (by have := HW6.out.size; simp; omega) (fun k e => by have := hrow k e; omega))
      have HS7 : Hid (w3.heap.size ≤ w7.heap.size) := Lib.hid (by have := hg1.size; simp at this; have := HS6.out; omega)
      clear hown hown1 hg1 HO6 HB6 HX6 HC6 HY6 HW6 hrow
      go_wp2
      go_roundw
      case rel => exact ⟨k - 1, zs ++ [x], by rw [← HK.out], by rw [List.length_append]; simp; omega, R, HO7, HB7, HX7, HS7, HC7, HY7, HW7⟩
      case measure => simp [intOf]; omega
    · have hzi : ¬ 0 < (k : Int) := by omega
      obtain ⟨⟨x0, x1, x2, x3⟩, ⟨f0, f1, f2, f3⟩⟩ := box4 HX.out
      obtain ⟨⟨y0, y1, y2, y3⟩, _⟩ := box4 HB.out
      have HZ := Lib.hid (show zs.length ≤ 3 by omega)
      have hne2 : w.heap.size ≠ w2.heap.size := by omega
      clear hl HC HY
      go_wp2
      have HOO := Lib.hid (Flds.own_mono (own_put1 (g := w.heap.size) (u := .slice (some ⟨g3, 0, none⟩) l3.length cp3) (o := 3) (own_put1 (g := w.heap.size) (u := .string ⟨t.toArray⟩) (o := 2) (own_put1 (g := w.heap.size) (u := .string ⟨hh.toArray⟩) (o := 1) (own_put1 (g := w.heap.size) (u := .string ⟨m.toArray⟩) (o := 0) HO.out (fun k e => by have := (HO.out.lt k e).1; omega)) (fun k e => by have := (HO.out.lt k e).1; omega)) (fun k e => by have := (HO.out.lt k e).1; omega)) (fun k e => by have := (HO.out.lt k e).1; omega)) (B' := w.heap.size) (by omega))
      have HNN := Lib.hid (Rec.own_mono (own_put1 (g := w.heap.size) (u := .slice (some ⟨g3, 0, none⟩) l3.length cp3) (o := 3) (own_put1 (g := w.heap.size) (u := .string ⟨t.toArray⟩) (o := 2) (own_put1 (g := w.heap.size) (u := .string ⟨hh.toArray⟩) (o := 1) (own_put1 (g := w.heap.size) (u := .string ⟨m.toArray⟩) (o := 0) HN.out (fun k e => by have := (HN.out.lt k e).1; omega)) (fun k e => by have := (HN.out.lt k e).1; omega)) (fun k e => by have := (HN.out.lt k e).1; omega)) (fun k e => by have := (HN.out.lt k e).1; omega)) (B' := w.heap.size) (by omega))
      refine bodyPost_ret (v := .tuple #[.agg #[.string ⟨m.toArray⟩, .string ⟨hh.toArray⟩, .string ⟨t.toArray⟩, .slice (some ⟨g3, 0, none⟩) l3.length cp3], u6]) (by simp [results, Tryz.results6, go_sem, x0, x1, x2, x3]) rfl ⟨m, hh, t, _, u6, l3, zs, rfl, ⟨HR.out.1, HR.out.2.1, HR.out.2.2.1, HF3.out⟩, HZ.out, HOO.out, HNN.out, Below.setCell (Below.setCell (Below.setCell (Below.setCell HW.out (Nat.le_refl _) _) (Nat.le_refl _) _) (Nat.le_refl _) _) (Nat.le_refl _) _⟩
end Go.Proofs.YtegaakgmfphcaaaGreatDoor.Cur

/-
  CONTRACT of the program's filterFields, at any closure with one captured variable that only reads: it returns, in new memory, the fields that the closure keeps; nothing that was there before is changed.
-/
namespace Go.Proofs.YtegaakgmfphcaaaGreatDoor.Flds
open Go Go.RowKit
set_option linter.unusedVariables false
set_option maxRecDepth 1000000

theorem filt_more {p : Fld → Bool} {l : List Fld} {k : Nat} (h : k < l.length) : (l.take (k + 1)).filter p = if p (l.getD k nofld) = true then (l.take k).filter p ++ [l.getD k nofld] else (l.take k).filter p := by
  rw [List.take_succ_eq_append_getElem h, List.filter_append]
  have e : l.getD k nofld = l[k] := by simp [List.getD, h]
  rw [e]
  by_cases hp : p l[k] = true
  · simp [hp]
  · simp [hp]
theorem filt_le (p : Fld → Bool) (l : List Fld) (k : Nat) : ((l.take k).filter p).length ≤ l.length := by
  have h1 := List.length_filter_le p (l.take k); have h2 := List.length_take_le' k l; omega

def FilterEnd (l : List Fld) (w : World) (e : Ending) (w' : World) : Prop := ∃ v, e = .returned v ∧ Own w' w.heap.size v l ∧ Below w.heap.size w w'
/-- K is a function with a body. -/
def Enters (K : FuncId) : Prop := ∀ (args : Array Value) (w : World), Sem.run Tryz.prog (callFunc K args) w = .ok (.enter K args) w
/-- What a closure that keeps by 'p' does, at every world that has only grown. -/
def Keeps (K : FuncId) (q : Value) (p : Fld → Bool) (w : World) : Prop := ∀ (x y : List UInt8) (wx : World), Below w.heap.size w wx → Calls Tryz.prog K #[.agg #[.string ⟨x.toArray⟩, .string ⟨y.toArray⟩], q] wx fun e w' => e = .returned (.bool (p (x, y))) ∧ Below wx.heap.size wx w'

theorem filter_nil (K : FuncId) (q : Value) (a : Option Addr) (cap : Nat) (w : World) :
    Calls Tryz.prog 29 #[.slice a 0 cap, .func (.func K) #[] #[q]] w (FilterEnd [] w) := by
  go_enter Tryz.func29, Tryz.ntmps29
  go_wp2
  go_loop [5, 11] (fun v i => i = .int .i64 0 ∧ v = .slice (some ⟨w.heap.size, 0, none⟩) 0 0) (fun _ i => 0)
  case atStart => exact ⟨rfl, rfl⟩
  case round =>
    obtain ⟨rfl, rfl⟩ := hrel
    go_wp2
    go_ret
    exact ⟨_, rfl, own_lit_nil w, (Below.refl _ _).alloc (Nat.le_refl _) _⟩

theorem alloc_two (w : World) (x y : Value) (T : TypeId) : (w.alloc (.cells #[x, y] T)).cell? ⟨w.heap.size, 0, none⟩ = some x ∧ (w.alloc (.cells #[x, y] T)).cell? ⟨w.heap.size, 1, none⟩ = some y := ⟨by rw [World.cell?_alloc_new]; rfl, by rw [World.cell?_alloc_new]; rfl⟩

set_option maxHeartbeats 1000000 in
theorem filter_some (K : FuncId) (q : Value) (p : Fld → Bool) (b off cap : Nat) (l : List Fld) (w : World) (hE : Enters K) (hK : Keeps K q p w) (hc : At w b off l) (h0 : 0 < l.length) (hl : l.length ≤ 1048576) :
    Calls Tryz.prog 29 #[.slice (some ⟨b, off, none⟩) l.length cap, .func (.func K) #[] #[q]] w (FilterEnd (l.filter p) w) := by
  obtain ⟨i0, hi, hz0, hz1, hz2⟩ := info_parts info_fld
  have hbl := at_lt hc h0
  have HC := Lib.hid hc
  have HK := Lib.hid hK
  have HO := Lib.hid (own_lit_nil w)
  have HE := Lib.hid hE
  clear hc hK hE
  go_enter Tryz.func29, Tryz.ntmps29
  go_wp2
  go_loopw [5, 11] (fun v i wr => ∃ k : Nat, k ≤ l.length ∧ i = .int .i64 (k : Int) ∧ Own wr w.heap.size v ((l.take k).filter p) ∧ Below w.heap.size w wr) (fun _ i _ => l.length - (intOf i).toNat)
  case atStart => exact ⟨0, Nat.zero_le _, rfl, by rw [List.take_zero]; exact HO.out, (Below.refl _ _).alloc (Nat.le_refl _) _⟩
  case round =>
    clear HO
    obtain ⟨k, hk, rfl, hown, hb⟩ := hrel
    by_cases hlt : k < l.length
    · obtain ⟨c1, c2⟩ := at_below HC.out hb hbl k hlt
      have HM := Lib.hid (filt_more (p := p) hlt)
      generalize hx : l.getD k nofld = f at c1 c2 HM
      clear hx
      obtain ⟨x, y⟩ := f
      unfold sv at c1 c2
      have HB := Lib.hid hb
      have HO := Lib.hid hown
      clear hb hown
      have hws := HB.out.size
      have hwa := alloc_two wr (.string ⟨x.toArray⟩) (.string ⟨y.toArray⟩) 39
      have HKx := Lib.hid (HK.out x y (wr.alloc (.cells #[.string ⟨x.toArray⟩, .string ⟨y.toArray⟩] 39)) (HB.out.alloc HB.out.size _))
      by_cases hp : p (x, y) = true
      · rw [hp] at HKx
        rw [if_pos hp] at HM
        clear hp
        have hL := fcs_len ((l.take k).filter p)
        have HL := Lib.hid (filt_le p l k)
        go_wp2_with (fail)
        rw [HE.out, Oper.upon_enter]
        refine HKx.out.mono ?_
        rintro e w1 ⟨rfl, hb1⟩
        have hg1 := hb1.size
        rw [World.size_alloc] at hg1
        have d1 : w1.cell? ⟨wr.heap.size, 0, none⟩ = some (.string ⟨x.toArray⟩) := (hb1.cell (p := ⟨wr.heap.size, 0, none⟩) (by rw [World.size_alloc]; exact Nat.lt_succ_self _)).trans hwa.1
        have d2 : w1.cell? ⟨wr.heap.size, 1, none⟩ = some (.string ⟨y.toArray⟩) := (hb1.cell (p := ⟨wr.heap.size, 1, none⟩) (by rw [World.size_alloc]; exact Nat.lt_succ_self _)).trans hwa.2
        have hbb : Below wr.heap.size wr w1 := ((Below.refl wr.heap.size wr).alloc (Nat.le_refl _) _).trans (hb1.mono (by rw [World.size_alloc]; omega))
        have hown := own_below HO.out hbb
        have hb := HB.out.trans (hbb.mono HB.out.size)
        clear hb1 hbb
        go_wp2_with (at_builtin; refine wpList_append_own _ rfl (.tmp 18) (.tmp 20) 24 rfl w.heap.size 39 i0 (.agg #[.string ⟨#[]⟩, .string ⟨#[]⟩]) 2 32 Tryz.underlying24 hi hz0 hz1 hz2 rfl (by decide) _ _ _ rfl (hown.alloc _) ⟨w1.heap.size, 0, none⟩ 1 1 [.string ⟨x.toArray⟩, .string ⟨y.toArray⟩] rfl rfl (news_two _ _ _ _) (two_one (x, y)) (by have := HL.out; unfold maxLen; omega) (by have := HL.out; omega) (by have := hb.size; simp; omega) ?_; intro v1 w2 hown1 hg2 _)
        have R := Lib.hid (push_own (f := (x, y)) hown hb (Nat.le_refl _) hown1 hg2)
        clear hown hown1 hg2 hb
        go_wp2
        go_roundw
        case rel => exact ⟨k + 1, by omega, by go_num, by rw [HM.out]; exact R.out.1, R.out.2⟩
        case measure => simp [intOf]; omega
      · have hp' : p (x, y) = false := by simpa using hp
        rw [hp'] at HKx
        rw [if_neg hp] at HM
        clear hp hp'
        go_wp2_with (fail)
        rw [HE.out, Oper.upon_enter]
        refine HKx.out.mono ?_
        rintro e w1 ⟨rfl, hb1⟩
        have hbb : Below wr.heap.size wr w1 := ((Below.refl wr.heap.size wr).alloc (Nat.le_refl _) _).trans (hb1.mono (by rw [World.size_alloc]; omega))
        have HR := Lib.hid (And.intro (own_below HO.out hbb) (HB.out.trans (hbb.mono HB.out.size)))
        clear hb1 hbb
        go_wp2
        go_roundw
        case rel => exact ⟨k + 1, by omega, by go_num, by rw [HM.out]; exact HR.out.1, HR.out.2⟩
        case measure => simp [intOf]; omega
    · have HF : Hid ((l.take k).filter p = l.filter p) := Lib.hid (by rw [List.take_of_length_le (by omega)])
      have HO := Lib.hid (And.intro hown hb)
      clear hown hb
      go_wp2
      go_ret
      exact ⟨_, rfl, by rw [← HF.out]; exact HO.out.1, HO.out.2⟩

theorem filter_any (K : FuncId) (q : Value) (p : Fld → Bool) (v : Value) (B : Nat) (l : List Fld) (w : World) (hE : Enters K) (hK : Keeps K q p w) (h : Holds w B v l) (hl : l.length ≤ 1048576) :
    Calls Tryz.prog 29 #[v, .func (.func K) #[] #[q]] w (FilterEnd (l.filter p) w) := by
  rcases h with ⟨rfl, a, cap, rfl⟩ | ⟨h0, b, off, cap, rfl, _, _, hc⟩
  · exact filter_nil K q a cap w
  · exact filter_some K q p b off cap l w hE hK hc h0 hl

/-! The closures of GetField and DropField: one captured text. -/
theorem enters_get : Enters 30 := fun args w => rfl
end Go.Proofs.YtegaakgmfphcaaaGreatDoor.Flds

/-
  CONTRACT of the model's JoinList: at every slice of texts that are not too long together it returns the texts with a comma and a space between them; nothing that was there before is changed.
-/
namespace Go.Proofs.YtegaakgmfphcaaaGreatDoor.Tx
open Go Go.RowKit Strs
set_option linter.unusedVariables false
set_option maxRecDepth 1000000

end Go.Proofs.YtegaakgmfphcaaaGreatDoor.Tx
