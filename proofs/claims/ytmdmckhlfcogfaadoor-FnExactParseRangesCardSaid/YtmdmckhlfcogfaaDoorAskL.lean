/-
  CONTRACTS of ParseRanges, the model's and the program's: the asks of a list, in memory of their own; nothing that was there before is changed.
-/
import Derived.Test.YtmdmckhlfcogfaaDoorAskS
import Derived.Test.YtmdmckhlfcogfaaDoorSplImpl
import Derived.Test.YtmdmckhlfcogfaaDoorSplSpec
import Derived.Test.YtmdmckhlfcogfaaDoorSplLen
import Derived.Test.YtmdmckhlfcogfaaDoorShelf
import Derived.Laws.DeepStrings4
namespace Go.Proofs.YtmdmckhlfcogfaaDoor.Rng
open Go Go.RowKit
set_option linter.unusedVariables false

def pre6 : List UInt8 := [98, 121, 116, 101, 115, 61]
def askl (xs : List (List UInt8)) : List Asks.T := xs.map (fun x => (pask x).1)
def askOk (xs : List (List UInt8)) : Bool := xs.all (fun x => (pask x).2)
def parts (s : List UInt8) : List (List UInt8) := Tx.split (Lib.trimPrefix s pre6)
def prs (s : List UInt8) : List Asks.T × Bool := if Lib.hasPrefix s pre6 = true ∧ askOk (parts s) = true ∧ 1 ≤ (parts s).length ∧ (parts s).length ≤ 6 then (askl (parts s), true) else ([], false)
theorem prs_yes {s : List UInt8} {xs : List (List UInt8)} (hx : parts s = xs) (h : Lib.hasPrefix s pre6 = true) (h2 : askOk xs = true) (h3 : 1 ≤ xs.length) (h4 : xs.length ≤ 6) : prs s = (askl xs, true) := by unfold prs; rw [hx, if_pos ⟨h, h2, h3, h4⟩]
theorem prs_no {s : List UInt8} {xs : List (List UInt8)} (hx : parts s = xs) (h2 : Lib.hasPrefix s pre6 = false ∨ askOk xs = false ∨ xs.length < 1 ∨ 6 < xs.length) : prs s = ([], false) := by
  unfold prs; rw [hx, if_neg (by rintro ⟨a, b, c, d⟩; rcases h2 with h2 | h2 | h2 | h2; rw [h2] at a; cases a; rw [h2] at b; cases b; omega; omega)]
theorem prs_len (s : List UInt8) : (prs s).1.length ≤ 6 := by
  unfold prs; split
  · rename_i h; show (askl _).length ≤ 6; unfold askl; rw [List.length_map]; exact h.2.2.2
  · simp
theorem askl_more {xs : List (List UInt8)} {k : Nat} (h : k < xs.length) : askl (xs.take (k + 1)) = askl (xs.take k) ++ [(pask (xs.getD k [])).1] := by
  unfold askl; rw [List.take_succ_eq_append_getElem h, List.map_append]; simp [List.getD, h]
theorem aok_more {xs : List (List UInt8)} {k : Nat} (h : k < xs.length) (ha : askOk (xs.take k) = true) (hb : (pask (xs.getD k [])).2 = true) : askOk (xs.take (k + 1)) = true := by
  unfold askOk at *; rw [List.take_succ_eq_append_getElem h, List.all_append, ha]; simp [List.getD, h] at hb ⊢; exact hb
theorem aok_bad {xs : List (List UInt8)} {k : Nat} (h : k < xs.length) (hb : (pask (xs.getD k [])).2 = false) : askOk xs = false := by
  unfold askOk
  rw [Bool.eq_false_iff]
  intro ha
  rw [List.all_eq_true] at ha
  have := ha (xs.getD k []) (by rw [show xs.getD k [] = xs[k] by simp [List.getD, h]]; exact List.getElem_mem _)
  rw [hb] at this; cases this
theorem askl_len (xs : List (List UInt8)) : (askl xs).length = xs.length := by unfold askl; simp
theorem take_full {xs : List (List UInt8)} {k : Nat} (h : ¬ k < xs.length) : xs.take k = xs := List.take_of_length_le (by omega)
def PrsEnd (s : List UInt8) (w : World) (e : Ending) (w' : World) : Prop := ∃ v, e = .returned (.tuple #[v, .bool (prs s).2]) ∧ Asks.Own w' w.heap.size v (prs s).1 ∧ Below w.heap.size w w'
theorem prs_ret {s : List UInt8} {m : List Asks.T} {b : Bool} {w w' : World} {v : Value} (h : prs s = (m, b)) (ho : Asks.Own w' w.heap.size v m) (hb : Below w.heap.size w w') : PrsEnd s w (.returned (.tuple #[v, .bool b])) w' := by
  unfold PrsEnd; rw [h]; exact ⟨v, rfl, ho, hb⟩
theorem nil_late {w w1 : World} (hb : Below w.heap.size w w1) : Asks.Own (w1.alloc (.cells #[] 40)) w.heap.size (.slice (some ⟨w1.heap.size, 0, none⟩) 0 0) [] := Asks.own_mono (Asks.own_lit_nil w1) hb.size
theorem has6 (l : List UInt8) : Lib.hasPrefix l pre6 = (l.take 6 == pre6) := by
  unfold Lib.hasPrefix
  rw [Bool.eq_iff_iff, List.isPrefixOf_iff_prefix, List.prefix_iff_eq_take, beq_iff_eq]
  exact ⟨fun h => h.symm, fun h => h.symm⟩
theorem trim_le (l p : List UInt8) : (Lib.trimPrefix l p).length ≤ l.length := by unfold Lib.trimPrefix; split <;> simp

set_option maxRecDepth 100000 in
set_option maxHeartbeats 4000000 in
theorem impl_prs (l : List UInt8) (w : World) (hl : l.length ≤ 1048576) (ht : Fmt.Tens w) (he : Par.Errs w) :
    Calls Tryd.prog 18 #[.string ⟨l.toArray⟩] w (PrsEnd l w) := by
  obtain ⟨i0, hi, hz0, hz1, hz2⟩ := info_parts Asks.info_r
  have HTE := Lib.hid (fun W (hb : Below w.heap.size w W) => And.intro (Fmt.tens_below ht hb) (Par.errs_below he hb))
  have C1 : Hid (∀ W : World, Calls Tryd.prog 33 #[.string ⟨l.toArray⟩, .string ⟨#[98, 121, 116, 101, 115, 61]⟩] W fun e w' => e = .returned (.tuple #[.string ⟨(Lib.trimPrefix l pre6).toArray⟩, .bool (Lib.hasPrefix l pre6)]) ∧ w' = W) := Lib.hid (fun W => Tryd.strings_CutPrefix ⟨l.toArray⟩ ⟨#[98, 121, 116, 101, 115, 61]⟩ W)
  obtain ⟨xs, hxs⟩ : ∃ xs, parts l = xs := ⟨_, rfl⟩
  have HSP := Lib.hid hxs
  unfold parts at hxs
  have hlr := Nat.le_trans (trim_le l pre6) hl
  have HLL := Lib.hid hlr
  have HS := Lib.hid (fun W => Tx.impl_split ⟨(Lib.trimPrefix l pre6).toArray⟩ W hlr)
  have HEL := Lib.hid (Tx.split_elem (Lib.trimPrefix l pre6))
  unfold Tx.SplitEnd at HS
  simp only [] at HS
  rw [hxs] at HS HEL
  obtain ⟨fd, hfd⟩ : ∃ fd, Lib.hasPrefix l pre6 = fd := ⟨_, rfl⟩
  rw [hfd] at C1
  have HFD := Lib.hid hfd
  generalize Lib.trimPrefix l pre6 = r at C1 HS HLL HEL
  clear hxs hfd hlr hl ht he
  go_enter Tryd.func18, Tryd.ntmps18
  go_wp2_with (fail)
  go_at_call 33
  refine (C1.out _).mono ?_
  rintro e w0 ⟨rfl, hw⟩
  rw [hw]
  clear hw C1
  go_wp2_with (fail)
  go_at_call 34
  refine (HS.out _).mono ?_
  rintro e w1 ⟨vx, rfl, ox, hb1⟩
  have HOX : Hid (w1.ownsRow w.heap.size 9 1 vx xs.length (Strs.svs xs)) := Lib.hid ox
  have HB := Lib.hid hb1
  clear ox hb1 HS
  obtain ⟨ax, cx, rfl, hax⟩ := Rec.shape_at HOX.out
  have HAX := Lib.hid hax
  clear hax
  cases fd with
  | false =>
    have HE := Lib.hid (prs_no HSP.out (Or.inl HFD.out))
    have HN := Lib.hid (nil_late HB.out)
    have HB2 := Lib.hid (HB.out.alloc HB.out.size (.cells #[] 40))
    go_wp2
    go_ret2
    exact prs_ret HE.out HN.out HB2.out
  | true =>
    by_cases h1 : (xs.length : Int) < 1
    · have HE := Lib.hid (prs_no HSP.out (Or.inr (Or.inr (Or.inl (by omega)))))
      have HN := Lib.hid (nil_late HB.out)
      have HB2 := Lib.hid (HB.out.alloc HB.out.size (.cells #[] 40))
      go_wp2
      go_ret2
      exact prs_ret HE.out HN.out HB2.out
    by_cases h7 : 6 < (xs.length : Int)
    · have HE := Lib.hid (prs_no HSP.out (Or.inr (Or.inr (Or.inr (by omega)))))
      have HN := Lib.hid (nil_late HB.out)
      have HB2 := Lib.hid (HB.out.alloc HB.out.size (.cells #[] 40))
      go_wp2
      go_ret2
      exact prs_ret HE.out HN.out HB2.out
    have H6 : Hid (xs.length ≤ 6) := Lib.hid (by omega)
    have HO := Lib.hid (nil_late HB.out)
    have HOX := Lib.hid (Rec.row_below HOX.out ((Below.refl w1.heap.size w1).alloc (Nat.le_refl _) (.cells #[] 40)))
    have HB := Lib.hid (HB.out.alloc HB.out.size (.cells #[] 40))
    go_wp2
    go_loopw [7, 35] (fun u i wr => ∃ k : Nat, k ≤ xs.length ∧ k ≤ 6 ∧ i = .int .i64 (k : Int) ∧ wr.ownsRow w.heap.size 40 2 u (askl (xs.take k)).length (Asks.fcs (askl (xs.take k))) ∧ wr.ownsRow w.heap.size 9 1 (.slice ax xs.length cx) xs.length (Strs.svs xs) ∧ Hid (askOk (xs.take k) = true) ∧ Below w.heap.size w wr) (fun _ i _ => xs.length - (intOf i).toNat)
    case atStart => exact ⟨0, Nat.zero_le _, by omega, rfl, HO.out, HOX.out, Lib.hid rfl, HB.out⟩
    case round =>
      clear HO HOX HB
      obtain ⟨k, hk, hk6, rfl, hown, hox, HOK, hb⟩ := hrel
      have HB := Lib.hid hb
      have HOX := Lib.hid hox
      have HO := Lib.hid hown
      clear hown hox hb
      by_cases hlt : k < xs.length
      · obtain ⟨gx, rfl⟩ := HAX.out (by omega)
        have c0 := Strs.own_cell HOX.out hlt
        have HXL : Hid ((xs.getD k []).length ≤ 1048576) := Lib.hid (Nat.le_trans (HEL.out _ (Rec.getD_mem (z := []) hlt)) HLL.out)
        have HDL : Hid ((askl (xs.take k)).length ≤ 1048577) := Lib.hid (by rw [askl_len, List.length_take]; omega)
        unfold Strs.sv at c0
        have HMO := Lib.hid (askl_more hlt)
        have HBD := Lib.hid (fun h => prs_no HSP.out (Or.inr (Or.inl (aok_bad (k := k) hlt h))))
        have HGD := Lib.hid (fun h => aok_more hlt HOK.out h)
        generalize xs.getD k [] = x at c0 HXL HMO HBD HGD
        obtain ⟨r, hr⟩ : ∃ r, pask x = r := ⟨_, rfl⟩
        obtain ⟨⟨a, t⟩, b⟩ := r
        have HP := Lib.hid (fun W (hb : Below w.heap.size w W) => impl_ask x W HXL.out (HTE.out W hb).1 (HTE.out W hb).2)
        unfold AskEnd at HP
        rw [hr] at HMO HBD HGD HP
        dsimp only at HMO HBD HGD HP
        clear hr
        cases b with
        | false =>
          have HE := Lib.hid (HBD.out rfl)
          clear HBD HGD HMO
          go_wp2_with (fail)
          go_at_call 35
          refine (HP.out _ HB.out).mono ?_
          rintro e w2 ⟨rfl, hb2⟩
          have HB2 := Lib.hid ((Base.then_below HB.out hb2).alloc (Nat.le_trans HB.out.size hb2.size) (.cells #[.int .i64 a, .int .i64 t] 40))
          have HN := Lib.hid (nil_late HB2.out)
          have HB3 := Lib.hid (HB2.out.alloc HB2.out.size (.cells #[] 40))
          clear hb2
          go_wp2
          go_ret2
          exact prs_ret HE.out (by have h := HN.out; simp only [World.size_alloc] at h; exact h) HB3.out
        | true =>
          have HM := Lib.hid (HGD.out rfl)
          have h6 : (k : Int) < 6 := by have := H6.out; omega
          clear HBD HGD
          go_wp2_with (fail)
          go_at_call 35
          refine (HP.out _ HB.out).mono ?_
          rintro e w2 ⟨rfl, hb2⟩
          have HO := Lib.hid (Rec.row_below HO.out hb2)
          have HOX := Lib.hid (Rec.row_below HOX.out hb2)
          have HB := Lib.hid (Base.then_below HB.out hb2)
          clear hb2 HP
          generalize askl (xs.take k) = ds at HO HMO HDL
          have HA : Hid (Below w2.heap.size w2 (w2.alloc (.cells #[.int .i64 a, .int .i64 t] 40))) := Lib.hid ((Below.refl _ _).alloc (Nat.le_refl _) _)
          have hown := Rec.row_below HO.out HA.out
          have HOX := Lib.hid (Rec.row_below HOX.out HA.out)
          have HB := Lib.hid (Base.then_below HB.out HA.out)
          have HNE := Lib.hid (Rec.row_apart HOX.out hown (by decide))
          have hL := Asks.fcs_len ds
          have HNW := Lib.hid (Rec.news (w2.alloc (.cells #[.int .i64 a, .int .i64 t] 40)) [.int .i64 a, .int .i64 t] 40)
          go_wp2_with (at_builtin; go_loud (refine wpList_append_own _ rfl (.tmp 47) (.tmp 49) 25 rfl w.heap.size 40 i0 (.agg #[.int .i64 0, .int .i64 0]) 2 16 Tryd.underlying25 hi hz0 hz1 hz2 rfl (by decide) _ _ _ rfl (hown.alloc _) ⟨w2.heap.size + 1, 0, none⟩ 1 1 [.int .i64 a, .int .i64 t] rfl rfl (by have h := HNW.out; rw [World.size_alloc] at h; exact h) (Asks.cs_one (a, t)) (by have := HDL.out; unfold maxLen; omega) (by have := HDL.out; omega) (by have := HB.out.size; simp at this ⊢; omega) ?_; intro v1 w3 hown1 hg1 _))
          have R := Lib.hid (Asks.push_own (a := w) (f := (a, t)) hown HB.out (Nat.le_refl _) hown1 hg1)
          have HA2 := Lib.hid ((Below.refl (w2.alloc (.cells #[.int .i64 a, .int .i64 t] 40)).heap.size (w2.alloc (.cells #[.int .i64 a, .int .i64 t] 40))).alloc (Nat.le_refl _) (.cells #[.int .i64 a, .int .i64 t] 40))
          have ROX := Lib.hid (Rec.row_grown (Rec.row_below HOX.out HA2.out) hg1 HNE.out)
          clear hown hown1 hg1
          go_wp2
          go_roundw
          case rel => exact ⟨k + 1, by omega, by omega, by go_num, by rw [HMO.out]; exact R.out.1, ROX.out, HM, R.out.2⟩
          case measure => simp [intOf]; omega
      · have HF := Lib.hid (take_full hlt)
        have HOF := Lib.hid (show World.ownsRow _ _ _ _ _ _ _ from by have h := HO.out; rw [HF.out] at h; exact h)

        have HE := Lib.hid (prs_yes HSP.out HFD.out (by have h := HOK.out; rw [HF.out] at h; exact h) (by omega) H6.out)
        go_wp2
        go_ret2
        exact prs_ret HE.out HOF.out HB.out

set_option maxRecDepth 100000 in
set_option maxHeartbeats 4000000 in
theorem spec_prs_s (s : ByteArray) (w : World) (hl : s.size ≤ 1048576) :
    Calls Tryd.prog 17 #[.string s] w (PrsEnd s.data.toList w) := by
  obtain ⟨i0, hi, hz0, hz1, hz2⟩ := info_parts Asks.info_r
  have HLN : Hid (s.data.toList.length = s.size) := Lib.hid (by rw [Array.length_toList]; rfl)
  have HO0 := Lib.hid (Asks.own_lit_nil w)
  have HB0 := Lib.hid ((Below.refl w.heap.size w).alloc (Nat.le_refl _) (.cells #[] 40))
  have ex : (s.extract 0 6).toList = s.data.toList.take 6 := by rw [Lib.extract_toList]; simp
  obtain ⟨xs, hxs⟩ : ∃ xs, parts s.data.toList = xs := ⟨_, rfl⟩
  have HSP := Lib.hid hxs
  by_cases h6s : (s.size : Int) < 6
  · have HE := Lib.hid (prs_no HSP.out (Or.inl (by rw [has6, beq_eq_false_iff_ne]; intro h; have h2 := congrArg List.length h; rw [List.length_take, HLN.out] at h2; unfold pre6 at h2; simp at h2; omega)))
    clear ex hxs
    go_enter Tryd.func17, Tryd.ntmps17
    go_wp2
    go_ret2
    exact prs_ret HE.out HO0.out HB0.out
  cases hq : ((s.extract 0 6).toList == [98, 121, 116, 101, 115, 61]) with
  | false =>
    have HE := Lib.hid (prs_no HSP.out (Or.inl (by rw [has6, ← ex]; exact hq)))
    have hq2 : ((s.extract 0 6).toList != [98, 121, 116, 101, 115, 61]) = true := by rw [bne, hq]; rfl
    have h66 : (6 : Int) ≤ (s.size : Int) := by omega
    clear ex hxs
    go_enter Tryd.func17, Tryd.ntmps17
    go_wp2
    go_ret2
    exact prs_ret HE.out HO0.out HB0.out
  | true =>
    have hfd : Lib.hasPrefix s.data.toList pre6 = true := by rw [has6, ← ex]; exact hq
    have HFD := Lib.hid hfd
    have hq2 : ((s.extract 0 6).toList != [98, 121, 116, 101, 115, 61]) = false := by rw [bne, hq]; rfl
    have h66 : (6 : Int) ≤ (s.size : Int) := by omega
    have htp : Lib.trimPrefix s.data.toList pre6 = (s.extract 6 s.size).data.toList := by
      unfold Lib.trimPrefix
      rw [if_pos hfd, Tx.ext_eq]
      simp only []
      exact (List.take_of_length_le (by have h6 : pre6.length = 6 := rfl; rw [List.length_drop, HLN.out, h6]; omega)).symm
    unfold parts at hxs
    rw [htp] at hxs
    have hlr : (s.extract 6 s.size).size ≤ 1048576 := by simp; omega
    have HLL : Hid ((s.extract 6 s.size).data.toList.length ≤ 1048576) := Lib.hid (by rw [Array.length_toList]; exact hlr)
    have HS := Lib.hid (fun W => Tx.spec_split (s.extract 6 s.size) W hlr)
    have HEL := Lib.hid (Tx.split_elem (s.extract 6 s.size).data.toList)
    unfold Tx.SplitEnd at HS
    rw [hxs] at HS HEL
    generalize (s.extract 6 s.size).data.toList.length = nl at HLL HEL
    clear ex hxs hfd htp hlr
    go_enter Tryd.func17, Tryd.ntmps17
    go_wp2_with (fail)
    go_at_call 31
    refine (HS.out _).mono ?_
    rintro e w1 ⟨vx, rfl, ox, hb1⟩
    have HOX : Hid (w1.ownsRow w.heap.size 9 1 vx xs.length (Strs.svs xs)) := Lib.hid (Rec.own_mono ox HB0.out.size)
    have HO := Lib.hid (Rec.row_below HO0.out hb1)
    have HB := Lib.hid (Base.then_below HB0.out hb1)
    clear ox hb1 HS HO0 HB0
    obtain ⟨ax, cx, rfl, hax⟩ := Rec.shape_at HOX.out
    have HAX := Lib.hid hax
    clear hax
    go_wp2
    go_loopw [4, 6] (fun u i wr => ∃ k : Nat, k ≤ xs.length ∧ k ≤ 6 ∧ i = .int .i64 (k : Int) ∧ wr.ownsRow w.heap.size 40 2 u (askl (xs.take k)).length (Asks.fcs (askl (xs.take k))) ∧ wr.ownsRow w.heap.size 9 1 (.slice ax xs.length cx) xs.length (Strs.svs xs) ∧ Hid (askOk (xs.take k) = true) ∧ Below w.heap.size w wr) (fun _ i _ => xs.length - (intOf i).toNat)
    case atStart => exact ⟨0, Nat.zero_le _, by omega, rfl, HO.out, HOX.out, Lib.hid rfl, HB.out⟩
    case round =>
      clear HO HOX HB
      obtain ⟨k, hk, hk6, rfl, hown, hox, HOK, hb⟩ := hrel
      have HB := Lib.hid hb
      have HOX := Lib.hid hox
      have HO := Lib.hid hown
      clear hown hox hb
      by_cases hlt : k < xs.length
      · obtain ⟨gx, rfl⟩ := HAX.out (by omega)
        have c0 := Strs.own_cell HOX.out hlt
        have HXL : Hid ((xs.getD k []).length ≤ 1048576) := Lib.hid (Nat.le_trans (HEL.out _ (Rec.getD_mem (z := []) hlt)) HLL.out)
        have HDL : Hid ((askl (xs.take k)).length ≤ 1048577) := Lib.hid (by rw [askl_len, List.length_take]; omega)
        unfold Strs.sv at c0
        have HMO := Lib.hid (askl_more hlt)
        have HBD := Lib.hid (fun h => prs_no HSP.out (Or.inr (Or.inl (aok_bad (k := k) hlt h))))
        have HGD := Lib.hid (fun h => aok_more hlt HOK.out h)
        generalize xs.getD k [] = x at c0 HXL HMO HBD HGD
        obtain ⟨r, hr⟩ : ∃ r, pask x = r := ⟨_, rfl⟩
        obtain ⟨⟨a, t⟩, b⟩ := r
        have HP := Lib.hid (fun W (hb : Below w.heap.size w W) => spec_ask x W HXL.out)
        unfold AskEnd at HP
        rw [hr] at HMO HBD HGD HP
        dsimp only at HMO HBD HGD HP
        clear hr
        cases b with
        | false =>
          have HE := Lib.hid (HBD.out rfl)
          clear HBD HGD HMO
          go_wp2_with (fail)
          go_at_call 32
          refine (HP.out _ HB.out).mono ?_
          rintro e w2 ⟨rfl, hb2⟩
          have HB2 := Lib.hid ((Base.then_below HB.out hb2).alloc (Nat.le_trans HB.out.size hb2.size) (.cells #[.int .i64 a, .int .i64 t] 40))
          have HN := Lib.hid (nil_late HB2.out)
          have HB3 := Lib.hid (HB2.out.alloc HB2.out.size (.cells #[] 40))
          clear hb2
          go_wp2
          go_ret2
          exact prs_ret HE.out (by have h := HN.out; simp only [World.size_alloc] at h; exact h) HB3.out
        | true =>
          have HM := Lib.hid (HGD.out rfl)
          by_cases h6 : (k : Int) < 6
          case neg =>
            have HE := Lib.hid (prs_no HSP.out (Or.inr (Or.inr (Or.inr (by omega)))))
            clear HBD HGD HMO
            go_wp2_with (fail)
            go_at_call 32
            refine (HP.out _ HB.out).mono ?_
            rintro e w2 ⟨rfl, hb2⟩
            have HB2 := Lib.hid ((Base.then_below HB.out hb2).alloc (Nat.le_trans HB.out.size hb2.size) (.cells #[.int .i64 a, .int .i64 t] 40))
            have HN := Lib.hid (nil_late HB2.out)
            have HB3 := Lib.hid (HB2.out.alloc HB2.out.size (.cells #[] 40))
            clear hb2
            go_wp2
            go_ret2
            exact prs_ret HE.out (by have h := HN.out; simp only [World.size_alloc] at h; exact h) HB3.out
          clear HBD HGD
          go_wp2_with (fail)
          go_at_call 32
          refine (HP.out _ HB.out).mono ?_
          rintro e w2 ⟨rfl, hb2⟩
          have HO := Lib.hid (Rec.row_below HO.out hb2)
          have HOX := Lib.hid (Rec.row_below HOX.out hb2)
          have HB := Lib.hid (Base.then_below HB.out hb2)
          clear hb2 HP
          generalize askl (xs.take k) = ds at HO HMO HDL
          have HA : Hid (Below w2.heap.size w2 (w2.alloc (.cells #[.int .i64 a, .int .i64 t] 40))) := Lib.hid ((Below.refl _ _).alloc (Nat.le_refl _) _)
          have hown := Rec.row_below HO.out HA.out
          have HOX := Lib.hid (Rec.row_below HOX.out HA.out)
          have HB := Lib.hid (Base.then_below HB.out HA.out)
          have HNE := Lib.hid (Rec.row_apart HOX.out hown (by decide))
          have hL := Asks.fcs_len ds
          have HNW := Lib.hid (Rec.news (w2.alloc (.cells #[.int .i64 a, .int .i64 t] 40)) [.int .i64 a, .int .i64 t] 40)
          go_wp2_with (at_builtin; go_loud (refine wpList_append_own _ rfl (.tmp 43) (.tmp 45) 25 rfl w.heap.size 40 i0 (.agg #[.int .i64 0, .int .i64 0]) 2 16 Tryd.underlying25 hi hz0 hz1 hz2 rfl (by decide) _ _ _ rfl (hown.alloc _) ⟨w2.heap.size + 1, 0, none⟩ 1 1 [.int .i64 a, .int .i64 t] rfl rfl (by have h := HNW.out; rw [World.size_alloc] at h; exact h) (Asks.cs_one (a, t)) (by have := HDL.out; unfold maxLen; omega) (by have := HDL.out; omega) (by have := HB.out.size; simp at this ⊢; omega) ?_; intro v1 w3 hown1 hg1 _))
          have R := Lib.hid (Asks.push_own (a := w) (f := (a, t)) hown HB.out (Nat.le_refl _) hown1 hg1)
          have HA2 := Lib.hid ((Below.refl (w2.alloc (.cells #[.int .i64 a, .int .i64 t] 40)).heap.size (w2.alloc (.cells #[.int .i64 a, .int .i64 t] 40))).alloc (Nat.le_refl _) (.cells #[.int .i64 a, .int .i64 t] 40))
          have ROX := Lib.hid (Rec.row_grown (Rec.row_below HOX.out HA2.out) hg1 HNE.out)
          clear hown hown1 hg1
          go_wp2
          go_roundw
          case rel => exact ⟨k + 1, by omega, by omega, by go_num, by rw [HMO.out]; exact R.out.1, ROX.out, HM, R.out.2⟩
          case measure => simp [intOf]; omega
      · have HF := Lib.hid (take_full hlt)
        have HOF := Lib.hid (show World.ownsRow _ _ _ _ _ _ _ from by have h := HO.out; rw [HF.out] at h; exact h)

        obtain ⟨au, cu, rfl, _⟩ := Rec.shape_at HOF.out
        by_cases h0 : 0 < ((askl xs).length : Int)
        · have HE := Lib.hid (prs_yes HSP.out HFD.out (by have h := HOK.out; rw [HF.out] at h; exact h) (by rw [askl_len] at h0; omega) (by omega))
          clear HO
          generalize askl xs = ds at *
          go_wp2
          go_ret2
          exact prs_ret (by rw [decide_eq_true (by omega)]; exact HE.out) HOF.out HB.out
        · have HE := Lib.hid (prs_no HSP.out (Or.inr (Or.inr (Or.inl (by rw [askl_len] at h0; omega)))))
          have HOF : Hid (Asks.Own wr w.heap.size (.slice au (askl xs).length cu) []) := Lib.hid (by have h := HOF.out; rw [show askl xs = [] from List.eq_nil_of_length_eq_zero (by omega)] at h ⊢; exact h)
          clear HO
          generalize (askl xs).length = n at *
          go_wp2
          go_ret2
          exact prs_ret (by rw [decide_eq_false (by omega)]; exact HE.out) HOF.out HB.out
theorem spec_prs (l : List UInt8) (w : World) (hl : l.length ≤ 1048576) : Calls Tryd.prog 17 #[.string ⟨l.toArray⟩] w (PrsEnd l w) := spec_prs_s ⟨l.toArray⟩ w (by simpa [ByteArray.size] using hl)

end Go.Proofs.YtmdmckhlfcogfaaDoor.Rng
