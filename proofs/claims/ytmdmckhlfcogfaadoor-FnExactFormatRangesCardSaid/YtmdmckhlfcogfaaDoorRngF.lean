/-
  CONTRACTS of FormatRanges, the model's and the program's; nothing that was there before is changed.
-/
import Derived.Test.YtmdmckhlfcogfaaDoorCrFmt
import Derived.Test.YtmdmckhlfcogfaaDoorAsks
import Derived.Test.YtmdmckhlfcogfaaDoorJoinI
import Derived.Test.YtmdmckhlfcogfaaDoorJoinS
import Derived.Deep.AppendLies
import Derived.Deep.RegionLaw
namespace Go.Proofs.YtmdmckhlfcogfaaDoor.Rng
open Go Go.RowKit Crf
set_option linter.unusedVariables false

def fa (p q : Int) : List UInt8 := if p < 0 then [45] ++ Lib.itoa q else if q < 0 then Lib.itoa p ++ [45] else Lib.itoa p ++ [45] ++ Lib.itoa q
theorem fa_neg {p q : Int} (h : p < 0) : fa p q = [45] ++ Lib.itoa q := by unfold fa; rw [if_pos h]
theorem fa_open {p q : Int} (h : ¬ p < 0) (h2 : q < 0) : fa p q = Lib.itoa p ++ [45] := by unfold fa; rw [if_neg h, if_pos h2]
theorem fa_both {p q : Int} (h : ¬ p < 0) (h2 : ¬ q < 0) : fa p q = Lib.itoa p ++ [45] ++ Lib.itoa q := by unfold fa; rw [if_neg h, if_neg h2]
theorem fa_len {p q : Int} (hp : In64 p) (hq : In64 q) : (fa p q).length ≤ 41 := by
  have h1 := il hp
  have h2 := il hq
  unfold fa; split
  · simp only [List.length_append, List.length_cons, List.length_nil]; omega
  · split <;> (simp only [List.length_append, List.length_cons, List.length_nil]; omega)
def fal (l : List Asks.T) : List (List UInt8) := l.map (fun a => fa a.1 a.2)
theorem fal_len (l : List Asks.T) : (fal l).length = l.length := by unfold fal; simp
theorem fal_take_len (l : List Asks.T) (k : Nat) : (fal (l.take k)).length ≤ l.length := by rw [fal_len, List.length_take]; omega
theorem fal_more {l : List Asks.T} {k : Nat} (h : k < l.length) : fal (l.take (k + 1)) = fal (l.take k) ++ [fa (l.getD k Asks.nov).1 (l.getD k Asks.nov).2] := by
  unfold fal; rw [List.take_succ_eq_append_getElem h, List.map_append]; simp [List.getD, h]
theorem fal_tot {l : List Asks.T} (hl : l.length ≤ 1048576) (hok : ∀ a ∈ l, Asks.Ok a) : Strs.total (fal l) ≤ 67108864 ∧ (Tx.join (fal l)).length ≤ 67108864 := by
  have key : ∀ m : List Asks.T, (∀ a ∈ m, Asks.Ok a) → ((fal m).map (·.length)).sum ≤ 41 * m.length := by
    intro m hm
    induction m with
    | nil => simp [fal]
    | cons a r ih =>
      have h1 := ih (fun b hb => hm b (by simp [hb]))
      have h2 := hm a (by simp)
      have h3 := fa_len (p := a.1) (q := a.2) h2.1 h2.2
      unfold fal at h1 ⊢
      simp only [List.map_cons, List.sum_cons, List.length_cons]
      omega
  have h1 := key l hok
  have h2 := fal_len l
  have h3 := Tx.join_len (fal l) (fal l).length (Nat.le_refl _)
  rw [List.take_length] at h3
  have h4 := Tx.pre_le (fal l) (fal l).length
  exact ⟨by unfold Strs.total; omega, by omega⟩
def frng (l : List Asks.T) : List UInt8 := [98, 121, 116, 101, 115, 61] ++ Tx.join (fal l)
theorem shape {w : World} {B : Nat} {v : Value} {l : List Asks.T} (h : Asks.Holds w B v l) : ∃ a cap, v = .slice a l.length cap ∧ (0 < l.length → ∃ b off, a = some ⟨b, off, none⟩ ∧ b < B ∧ l.length ≤ cap ∧ Asks.At w b off l) := by
  rcases h with ⟨rfl, a, cap, rfl⟩ | ⟨h0, b, off, cap, rfl, hb, hcap, hc⟩
  · exact ⟨a, cap, rfl, fun h => by simp at h⟩
  · exact ⟨_, cap, rfl, fun _ => ⟨b, off, rfl, hb, hcap, hc⟩⟩

set_option maxRecDepth 100000 in
set_option maxHeartbeats 4000000 in
theorem spec_frng (v : Value) (B : Nat) (l : List Asks.T) (w : World) (h : Asks.Holds w B v l) (hB : B ≤ w.heap.size) (hl : l.length ≤ 1048576) (hok : ∀ a ∈ l, Asks.Ok a) :
    Calls Tryd.prog 7 #[v] w (TxtEnd (frng l) w) := by
  obtain ⟨i0, hi, hz0, hz1, hz2⟩ := info_parts Strs.info_str
  have HTT := Lib.hid (fal_tot hl hok)
  have HOK := Lib.hid hok
  obtain ⟨a, cap, rfl, ha⟩ := shape h
  have HA := Lib.hid ha
  have HO := Lib.hid (Strs.own_lit_nil w)
  have HB := Lib.hid ((Below.refl w.heap.size w).alloc (Nat.le_refl _) (.cells #[] 9))
  clear ha h hok
  go_enter Tryd.func7, Tryd.ntmps7
  go_wp2
  go_loopw [3, 4] (fun u i wr => ∃ k : Nat, k ≤ l.length ∧ i = .int .i64 (k : Int) ∧ wr.ownsRow w.heap.size 9 1 u (fal (l.take k)).length (Strs.svs (fal (l.take k))) ∧ Below w.heap.size w wr) (fun _ i _ => l.length - (intOf i).toNat)
  case atStart => exact ⟨0, Nat.zero_le _, rfl, HO.out, HB.out⟩
  case round =>
    clear HO HB
    obtain ⟨k, hk, rfl, hown, hb⟩ := hrel
    have HB := Lib.hid hb
    have HO := Lib.hid hown
    have HML := Lib.hid (fal_take_len l k)
    clear hown
    by_cases hlt : k < l.length
    · obtain ⟨b, off, rfl, hbw, hcap, hc⟩ := HA.out (by omega)
      obtain ⟨c0, c1⟩ := Asks.at_cells (Asks.at_below hc hb (Nat.lt_of_lt_of_le hbw hB)) hlt
      have HM := Lib.hid (fal_more hlt)
      obtain ⟨hp, hq⟩ : In64 (l.getD k Asks.nov).1 ∧ In64 (l.getD k Asks.nov).2 := HOK.out _ (Rec.getD_mem (z := Asks.nov) hlt)
      clear hb hc
      generalize l.getD k Asks.nov = s at c0 c1 HM hp hq
      obtain ⟨p, q⟩ := s
      simp only at c0 c1 HM hp hq
      generalize fal (l.take k) = m at HO HML HM
      have HA2 : Hid (Below wr.heap.size wr (wr.alloc (.cells #[.int .i64 p, .int .i64 q] 40))) := Lib.hid ((Below.refl _ _).alloc (Nat.le_refl _) _)
      have HO := Lib.hid (Rec.row_below HO.out HA2.out)
      have HB := Lib.hid (Base.then_below HB.out HA2.out)
      have HX := Lib.hid (crs_start wr p q 40).1
      clear HA2
      have HP := Lib.hid (fun W => Fmt.spec_fmt p hp.1 hp.2 W)
      have HQ := Lib.hid (fun W => Fmt.spec_fmt q hq.1 hq.2 W)
      have lp := il hp
      have lq := il hq
      clear hp hq
      by_cases h1 : p < 0
      · rw [fa_neg h1] at HM
        generalize Lib.itoa q = sq at HM HQ lq
        have a1 := Tx.addtwo [45] sq (by simp only [List.length_append, List.length_cons, List.length_nil]; omega)
        generalize [45] ++ sq = t at HM a1
        go_wp2_with (fail)
        go_at_call 20
        refine (HQ.out _).mono ?_
        rintro e w2 ⟨rfl, bq⟩
        have hown := Rec.row_below HO.out bq
        have HB := Lib.hid (Base.then_below HB.out bq)
        have hbz := HB.out.size
        clear bq HO HX
        go_wp2_with (at_builtin; go_loud (refine wpList_append_own _ rfl (.tmp 32) (.tmp 37) 38 rfl w.heap.size 9 i0 (.string ⟨#[]⟩) 1 16 Tryd.underlying38 hi hz0 hz1 hz2 rfl (by decide) _ _ _ rfl (hown.alloc _) ⟨w2.heap.size, 0, none⟩ 1 1 [Strs.sv t] rfl rfl (Strs.news_one _ _ _) (Strs.sv_one t) (by have := HML.out; unfold maxLen; first | omega | (simp; omega) | (simp; done)) (by have := HML.out; first | omega | (simp; omega) | (simp; done)) (by first | omega | (simp; omega) | (simp; done)) ?_; intro v1 w4 hown1 hg1 _))
        have R := Lib.hid (Strs.push_own (a := w) (x := t) hown HB.out (Nat.le_refl _) hown1 hg1)
        clear hown hown1 hg1
        go_wp2
        go_roundw
        case rel => exact ⟨k + 1, by omega, by go_num, by rw [HM.out]; exact R.out.1, R.out.2⟩
        case measure => simp [intOf]; omega
      by_cases h2 : q < 0
      · rw [fa_open h1 h2] at HM
        generalize Lib.itoa p = sp at HM HP lp
        have a1 := Tx.addtwo sp [45] (by simp only [List.length_append, List.length_cons, List.length_nil]; omega)
        generalize sp ++ [45] = t at HM a1
        go_wp2_with (fail)
        go_at_call 20
        refine (HP.out _).mono ?_
        rintro e w2 ⟨rfl, bq⟩
        have hown := Rec.row_below HO.out bq
        have HB := Lib.hid (Base.then_below HB.out bq)
        have hbz := HB.out.size
        clear bq HO HX
        go_wp2_with (at_builtin; go_loud (refine wpList_append_own _ rfl (.tmp 43) (.tmp 48) 38 rfl w.heap.size 9 i0 (.string ⟨#[]⟩) 1 16 Tryd.underlying38 hi hz0 hz1 hz2 rfl (by decide) _ _ _ rfl (hown.alloc _) ⟨w2.heap.size, 0, none⟩ 1 1 [Strs.sv t] rfl rfl (Strs.news_one _ _ _) (Strs.sv_one t) (by have := HML.out; unfold maxLen; first | omega | (simp; omega) | (simp; done)) (by have := HML.out; first | omega | (simp; omega) | (simp; done)) (by first | omega | (simp; omega) | (simp; done)) ?_; intro v1 w4 hown1 hg1 _))
        have R := Lib.hid (Strs.push_own (a := w) (x := t) hown HB.out (Nat.le_refl _) hown1 hg1)
        clear hown hown1 hg1
        go_wp2
        go_roundw
        case rel => exact ⟨k + 1, by omega, by go_num, by rw [HM.out]; exact R.out.1, R.out.2⟩
        case measure => simp [intOf]; omega
      rw [fa_both h1 h2] at HM
      generalize Lib.itoa p = sp at HM HP lp
      generalize Lib.itoa q = sq at HM HQ lq
      have a1 := Tx.addtwo sp [45] (by simp only [List.length_append, List.length_cons, List.length_nil]; omega)
      have a2 := Tx.addtwo (sp ++ [45]) sq (by simp only [List.length_append, List.length_cons, List.length_nil]; omega)
      generalize sp ++ [45] = t1 at HM a1 a2
      generalize t1 ++ sq = t at HM a2
      go_wp2
      have HB : Hid (Below w.heap.size w (wr.alloc (.cells #[.int .i64 p, .int .i64 q] 40)).drew) := Lib.hid (Rec.below_drew HB.out)
      have HO : Hid (Strs.Own (wr.alloc (.cells #[.int .i64 p, .int .i64 q] 40)).drew w.heap.size u3 m) := Lib.hid HO.out
      have HX : Hid ((wr.alloc (.cells #[.int .i64 p, .int .i64 q] 40)).drew.cell? ⟨wr.heap.size, 0, none⟩ = some (.int .i64 p) ∧ (wr.alloc (.cells #[.int .i64 p, .int .i64 q] 40)).drew.cell? ⟨wr.heap.size, 1, none⟩ = some (.int .i64 q)) := Lib.hid HX.out
      have b0 := HX.out.1
      have b1 := HX.out.2
      have HC : Hid (∀ U U' : World, U.cell? ⟨wr.heap.size, 0, none⟩ = some (.int .i64 p) ∧ U.cell? ⟨wr.heap.size, 1, none⟩ = some (.int .i64 q) → Below U.heap.size U U' → U'.cell? ⟨wr.heap.size, 0, none⟩ = some (.int .i64 p) ∧ U'.cell? ⟨wr.heap.size, 1, none⟩ = some (.int .i64 q)) := Lib.hid (fun U U' h hb => ⟨(hb.cell (p := ⟨wr.heap.size, 0, none⟩) (Rec.lt_of_cell h.1)).trans h.1, (hb.cell (p := ⟨wr.heap.size, 1, none⟩) (Rec.lt_of_cell h.2)).trans h.2⟩)
      clear c0 c1 lp lq
      go_region_law (first
        | (refine step_append_lies _ (by rfl) (.tmp 17) (.tmp 26) 38 (by rfl) w.heap.size 9 i0 (.string ⟨#[]⟩) 1 16 Tryd.underlying38 hi hz0 hz1 hz2 (by rfl) (by decide) _ _ _ (by rfl) (HO.out.alloc _) ⟨wz.heap.size, 0, none⟩ 1 1 [Strs.sv t] (by rfl) (by rfl) (Strs.news_one _ _ _) (Strs.sv_one t) (by decide) (by have := HML.out; unfold maxLen; omega) (by have := HML.out; omega) (by have := HB.out.size; simp; omega) _ rfl ?_; intro g gcap w4 hown1 hgrow hat hglt)
        | (go_simp; go_at_call 20; (with_reducible refine (HP.out _).mono ?_); rintro e wq ⟨rfl, bq⟩; clear b0 b1; have HO := Lib.hid (Rec.row_below HO.out bq); have HB := Lib.hid (Base.then_below HB.out bq); have HX := Lib.hid (HC.out _ _ HX.out bq); have b0 := HX.out.1; have b1 := HX.out.2; clear bq)
        | (go_simp; go_at_call 20; (with_reducible refine (HQ.out _).mono ?_); rintro e wz ⟨rfl, bq⟩; clear b0 b1; have HO := Lib.hid (Rec.row_below HO.out bq); have HB := Lib.hid (Base.then_below HB.out bq); have HX := Lib.hid (HC.out _ _ HX.out bq); have b0 := HX.out.1; have b1 := HX.out.2; clear bq))
      all_goals (
        have R := Lib.hid (Strs.push_own (a := w) (x := t) HO.out HB.out (Nat.le_refl _) hown1 hgrow)
        clear hown1 hgrow hat hglt b0 b1
        go_wp2
        go_roundw
        case rel => exact ⟨k + 1, by omega, by go_num, by rw [HM.out]; exact R.out.1, R.out.2⟩
        case measure => simp [intOf]; omega)
    · have HT : Hid (l.take k = l) := Lib.hid (List.take_of_length_le (by omega))
      rw [HT.out] at HO
      have HJ := Lib.hid (Tx.spec_join u3 wr.heap.size (fal l) wr (Strs.own_holds HO.out) HTT.out.1)
      have HE : Hid (frng l = [98, 121, 116, 101, 115, 61] ++ Tx.join (fal l)) := Lib.hid rfl
      have a1 := Tx.addtwo [98, 121, 116, 101, 115, 61] (Tx.join (fal l)) (by have := HTT.out.2; simp only [List.length_cons, List.length_nil]; omega)
      unfold Tx.JoinEnd at HJ
      generalize Tx.join (fal l) = jn at HJ HE a1
      generalize [98, 121, 116, 101, 115, 61] ++ jn = z at HE a1
      clear HT hb HO
      go_wp2_with (fail)
      go_at_call 21
      refine HJ.out.mono ?_
      rintro e w2 ⟨rfl, bq⟩
      have HB := Lib.hid (Base.then_below HB.out bq)
      clear bq
      go_wp2
      go_ret
      exact ⟨ret_txt HE.out.symm, HB.out⟩

set_option maxHeartbeats 2000000 in
theorem impl_fa (p q : Int) (w : World) (hp : In64 p) (hq : In64 q) (ht : Fmt.Tens w) :
    Calls Tryd.prog 23 #[.agg #[.int .i64 p, .int .i64 q]] w (TxtEnd (fa p q) w) := by
  have HS := Lib.hid (crs_start w p q 40)
  have HT : Hid (∀ u, CrS w p q u → Fmt.Tens u) := Lib.hid (fun u h => Fmt.tens_below ht h.2)
  have HP := Lib.hid (fun W (hW : Fmt.Tens W) => Fmt.impl_fmt p hp.1 hp.2 W hW)
  have HQ := Lib.hid (fun W (hW : Fmt.Tens W) => Fmt.impl_fmt q hq.1 hq.2 W hW)
  have lp := il hp
  have lq := il hq
  clear hp hq ht
  unfold TxtEnd
  by_cases h1 : p < 0
  · have HE := Lib.hid (fa_neg (q := q) h1)
    generalize Lib.itoa q = sq at HE HQ lq
    have a1 := Tx.addtwo [45] sq (by simp only [List.length_append, List.length_cons, List.length_nil]; omega)
    generalize [45] ++ sq = t at HE a1
    clear lp lq
    go_enter Tryd.func23, Tryd.ntmps23
    go_wp2_with (fail)
    go_at_call 36
    refine (HQ.out _ (HT.out _ HS.out)).mono ?_
    rintro e w2 ⟨rfl, bq⟩
    have HB := Lib.hid (Base.then_below HS.out.2 bq)
    clear bq
    go_wp2
    go_ret
    exact ⟨ret_txt HE.out.symm, HB.out⟩
  by_cases h2 : q < 0
  · have HE := Lib.hid (fa_open h1 h2)
    generalize Lib.itoa p = sp at HE HP lp
    have a1 := Tx.addtwo sp [45] (by simp only [List.length_append, List.length_cons, List.length_nil]; omega)
    generalize sp ++ [45] = t at HE a1
    clear lp lq
    go_enter Tryd.func23, Tryd.ntmps23
    go_wp2_with (fail)
    go_at_call 36
    refine (HP.out _ (HT.out _ HS.out)).mono ?_
    rintro e w2 ⟨rfl, bq⟩
    have HB := Lib.hid (Base.then_below HS.out.2 bq)
    clear bq
    go_wp2
    go_ret
    exact ⟨ret_txt HE.out.symm, HB.out⟩
  have HE := Lib.hid (fa_both h1 h2)
  generalize Lib.itoa p = sp at HE HP lp
  generalize Lib.itoa q = sq at HE HQ lq
  have a1 := Tx.addtwo sp [45] (by simp only [List.length_append, List.length_cons, List.length_nil]; omega)
  have a2 := Tx.addtwo (sp ++ [45]) sq (by simp only [List.length_append, List.length_cons, List.length_nil]; omega)
  generalize sp ++ [45] = t1 at HE a1 a2
  generalize t1 ++ sq = t at HE a2
  have HSD := Lib.hid (crs_drew HS.out)
  have SK : Hid (∀ w0 w1 : World, CrS w p q w0 → Below w0.heap.size w0 w1 → CrS w p q w1) := Lib.hid (fun _ _ h hb => crs_call h hb)
  have f0 : ∀ u : RegS.In (CrS w p q), u.w.cell? ⟨w.heap.size, 0, none⟩ = some (.int .i64 p) := fun u => u.h.1.1
  have f1 : ∀ u : RegS.In (CrS w p q), u.w.cell? ⟨w.heap.size, 1, none⟩ = some (.int .i64 q) := fun u => u.h.1.2
  have HPW : Hid (∀ u : RegS.In (CrS w p q), Calls Tryd.prog 36 #[.int .i64 p] u.w fun e w' => e = .returned (.string ⟨sp.toArray⟩) ∧ Below u.w.heap.size u.w w') := Lib.hid (fun u => HP.out u.w (HT.out _ u.h))
  have HQW : Hid (∀ u : RegS.In (CrS w p q), Calls Tryd.prog 36 #[.int .i64 q] u.w fun e w' => e = .returned (.string ⟨sq.toArray⟩) ∧ Below u.w.heap.size u.w w') := Lib.hid (fun u => HQ.out u.w (HT.out _ u.h))
  clear lp lq
  go_enter Tryd.func23, Tryd.ntmps23
  go_wp2
  refine RegS.region (CrS w p q) (by kernel_rfl) (by kernel_rfl) HSD.out ?_
  haveI : Nonempty (RegS.In (CrS w p q)) := ⟨⟨_, HSD.out⟩⟩
  repeat (first | go_big_quiet_step ((first | (go_at_call 36; with_reducible exact RegS.call (HPW.out _) (fun e w' he => ⟨he.1, SK.out _ _ (RegS.In.h _) he.2⟩)) | (go_at_call 36; with_reducible exact RegS.call (HQW.out _) (fun e w' he => ⟨he.1, SK.out _ _ (RegS.In.h _) he.2⟩)))) | quiet_step (fail))
  refine wpQuiet_nil ?_
  intro wz hw'
  obtain ⟨⟨wq, hS⟩, hw''⟩ := hw'
  subst hw''
  have HBB := Lib.hid hS.2
  clear hS
  go_wp2
  go_ret
  exact ⟨ret_txt HE.out.symm, HBB.out⟩

set_option maxRecDepth 100000 in
set_option maxHeartbeats 4000000 in
theorem impl_frng (v : Value) (B : Nat) (l : List Asks.T) (w : World) (h : Asks.Holds w B v l) (hB : B ≤ w.heap.size) (hl : l.length ≤ 1048576) (hok : ∀ a ∈ l, Asks.Ok a) (ht : Fmt.Tens w) :
    Calls Tryd.prog 9 #[v] w (TxtEnd (frng l) w) := by
  obtain ⟨i0, hi, hz0, hz1, hz2⟩ := info_parts Strs.info_str
  have HTT := Lib.hid (fal_tot hl hok)
  have HOK := Lib.hid hok
  have HTN := Lib.hid (fun W (hb : Below w.heap.size w W) => Fmt.tens_below ht hb)
  obtain ⟨a, cap, rfl, ha⟩ := shape h
  have HA := Lib.hid ha
  have HO := Lib.hid (Strs.own_lit_nil w)
  have HB := Lib.hid ((Below.refl w.heap.size w).alloc (Nat.le_refl _) (.cells #[] 9))
  clear ha h hok ht
  go_enter Tryd.func9, Tryd.ntmps9
  go_wp2
  go_loopw [3, 9] (fun u i wr => ∃ k : Nat, k ≤ l.length ∧ i = .int .i64 (k : Int) ∧ wr.ownsRow w.heap.size 9 1 u (fal (l.take k)).length (Strs.svs (fal (l.take k))) ∧ Below w.heap.size w wr) (fun _ i _ => l.length - (intOf i).toNat)
  case atStart => exact ⟨0, Nat.zero_le _, rfl, HO.out, HB.out⟩
  case round =>
    clear HO HB
    obtain ⟨k, hk, rfl, hown, hb⟩ := hrel
    have HB := Lib.hid hb
    have HO := Lib.hid hown
    have HML := Lib.hid (fal_take_len l k)
    clear hown
    by_cases hlt : k < l.length
    · obtain ⟨b, off, rfl, hbw, hcap, hc⟩ := HA.out (by omega)
      obtain ⟨c0, c1⟩ := Asks.at_cells (Asks.at_below hc hb (Nat.lt_of_lt_of_le hbw hB)) hlt
      have HM := Lib.hid (fal_more hlt)
      obtain ⟨hp, hq⟩ : In64 (l.getD k Asks.nov).1 ∧ In64 (l.getD k Asks.nov).2 := HOK.out _ (Rec.getD_mem (z := Asks.nov) hlt)
      clear hb hc
      generalize l.getD k Asks.nov = s at c0 c1 HM hp hq
      obtain ⟨p, q⟩ := s
      simp only at c0 c1 HM hp hq
      generalize fal (l.take k) = m at HO HML HM
      have HA2 : Hid (Below wr.heap.size wr (wr.alloc (.cells #[.int .i64 p, .int .i64 q] 40))) := Lib.hid ((Below.refl _ _).alloc (Nat.le_refl _) _)
      have HO := Lib.hid (Rec.row_below HO.out HA2.out)
      have HB := Lib.hid (Base.then_below HB.out HA2.out)
      have HF := Lib.hid (impl_fa p q _ hp hq (HTN.out _ HB.out))
      unfold TxtEnd at HF
      generalize fa p q = t at HM HF
      clear HA2 hp hq
      go_wp2_with (fail)
      go_at_call 23
      refine HF.out.mono ?_
      rintro e w2 ⟨rfl, bq⟩
      have hown := Rec.row_below HO.out bq
      have HB := Lib.hid (Base.then_below HB.out bq)
      have hbz := HB.out.size
      clear bq HO c0 c1
      go_wp2_with (at_builtin; go_loud (refine wpList_append_own _ rfl (.tmp 13) (.tmp 16) 38 rfl w.heap.size 9 i0 (.string ⟨#[]⟩) 1 16 Tryd.underlying38 hi hz0 hz1 hz2 rfl (by decide) _ _ _ rfl (hown.alloc _) ⟨w2.heap.size, 0, none⟩ 1 1 [Strs.sv t] rfl rfl (Strs.news_one _ _ _) (Strs.sv_one t) (by have := HML.out; unfold maxLen; first | omega | (simp; omega) | (simp; done)) (by have := HML.out; first | omega | (simp; omega) | (simp; done)) (by first | omega | (simp; omega) | (simp; done)) ?_; intro v1 w4 hown1 hg1 _))
      have R := Lib.hid (Strs.push_own (a := w) (x := t) hown HB.out (Nat.le_refl _) hown1 hg1)
      clear hown hown1 hg1
      go_wp2
      go_roundw
      case rel => exact ⟨k + 1, by omega, by go_num, by rw [HM.out]; exact R.out.1, R.out.2⟩
      case measure => simp [intOf]; omega
    · have HT : Hid (l.take k = l) := Lib.hid (List.take_of_length_le (by omega))
      rw [HT.out] at HO
      have HJ := Lib.hid (Tx.impl_join u3 wr.heap.size (fal l) wr (Strs.own_holds HO.out) HTT.out.1)
      have HE : Hid (frng l = [98, 121, 116, 101, 115, 61] ++ Tx.join (fal l)) := Lib.hid rfl
      have a1 := Tx.addtwo [98, 121, 116, 101, 115, 61] (Tx.join (fal l)) (by have := HTT.out.2; simp only [List.length_cons, List.length_nil]; omega)
      unfold Tx.JoinEnd at HJ
      generalize Tx.join (fal l) = jn at HJ HE a1
      generalize [98, 121, 116, 101, 115, 61] ++ jn = z at HE a1
      clear HT hb HO
      go_wp2_with (fail)
      go_at_call 24
      refine HJ.out.mono ?_
      rintro e w2 ⟨rfl, bq⟩
      have HB := Lib.hid (Base.then_below HB.out bq)
      clear bq
      go_wp2
      go_ret
      exact ⟨ret_txt HE.out.symm, HB.out⟩
end Go.Proofs.YtmdmckhlfcogfaaDoor.Rng
